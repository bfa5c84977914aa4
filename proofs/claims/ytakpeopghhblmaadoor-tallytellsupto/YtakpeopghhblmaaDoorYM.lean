/- Floating-point numbers: whole numbers, their quotients, and how they stand to each other. -/
import Derived.Laws.FloatArith
namespace Go.Proofs.YtakpeopghhblmaaDoor
namespace Fl
open Ieee

/-- What a rung stands for. -/
def mag (r : Nat) : Nat := if r < 2 ^ 52 then r else 2 ^ 52 + r % 2 ^ 52
def place (r : Nat) : Nat := r / 2 ^ 52 - 1

theorem read_word (neg : Bool) (r : Nat) (h : r < 2047 * 2 ^ 52) : double.read (double.word neg r) = .number neg (mag r) (-1074 + (place r : Nat)) := by
  have hS : double.signWeight = 2 ^ 63 := by decide
  have hB : double.binade = 2 ^ 52 := by decide
  have hI : double.infRung = 2047 * 2 ^ 52 := by decide
  have hL : double.leastPlace = -1074 := by decide
  have h1 : double.word neg r % 2 ^ 63 = r := by unfold Format.word; rw [hS]; split <;> omega
  have h2 : (double.word neg r / 2 ^ 63 % 2 == 1) = neg := by
    unfold Format.word; rw [hS]
    cases neg
    · simp; omega
    · simp; omega
  unfold Format.read
  simp only [hS, hB, hI, hL, h1, h2]
  by_cases hb : r < 2 ^ 52
  · rw [if_pos hb]
    have e : place r = 0 := by unfold place; omega
    rw [e]
    simp [mag, hb]
  · rw [if_neg hb, if_pos h]
    simp only [mag, hb, if_false, place]

theorem mag_pos {r : Nat} (h : r ≠ 0) : mag r ≠ 0 := by unfold mag; split <;> omega

/-- A word rises with its rung. -/
theorem val_mono {r s : Nat} (h : r ≤ s) : mag r * 2 ^ (place r) ≤ mag s * 2 ^ (place s) := by
  unfold mag place
  by_cases h1 : r < 2 ^ 52
  · rw [if_pos h1]
    have e : r / 2 ^ 52 - 1 = 0 := by omega
    rw [e, Nat.pow_zero, Nat.mul_one]
    have h3 : 1 ≤ 2 ^ (s / 2 ^ 52 - 1) := Nat.one_le_two_pow
    split
    · exact Nat.le_trans h (Nat.le_mul_of_pos_right _ (by omega))
    · exact Nat.le_trans (by omega) (Nat.le_mul_of_pos_right _ (by omega))
  · have h2 : ¬ s < 2 ^ 52 := by omega
    rw [if_neg h1, if_neg h2]
    rcases Nat.lt_or_ge (r / 2 ^ 52) (s / 2 ^ 52) with hq | hq
    · have e : s / 2 ^ 52 - 1 = (r / 2 ^ 52 - 1) + 1 + (s / 2 ^ 52 - 1 - (r / 2 ^ 52 - 1) - 1) := by omega
      rw [e, Nat.pow_add, Nat.pow_add, Nat.pow_one]
      generalize s / 2 ^ 52 - 1 - (r / 2 ^ 52 - 1) - 1 = d
      generalize hp : 2 ^ (r / 2 ^ 52 - 1) = p
      have hd : 1 ≤ 2 ^ d := Nat.one_le_two_pow
      calc (2 ^ 52 + r % 2 ^ 52) * p ≤ (2 ^ 52 * 2) * p := Nat.mul_le_mul_right _ (by omega)
        _ ≤ (2 ^ 52 + s % 2 ^ 52) * 2 * p := Nat.mul_le_mul_right _ (by omega)
        _ = (2 ^ 52 + s % 2 ^ 52) * (p * 2) := by rw [Nat.mul_assoc, Nat.mul_comm 2 p]
        _ ≤ (2 ^ 52 + s % 2 ^ 52) * (p * 2 * 2 ^ d) := Nat.mul_le_mul_left _ (Nat.le_mul_of_pos_right _ (by omega))
    · have e : r / 2 ^ 52 = s / 2 ^ 52 := by omega
      rw [e]
      exact Nat.mul_le_mul_right _ (by omega)

/-- How two words of one sign stand to each other. -/
theorem order_words (neg : Bool) {r s : Nat} (hr : r < 2047 * 2 ^ 52) (hs : s < 2047 * 2 ^ 52) :
    ∃ b : Nat, double.order (double.word neg r) (double.word neg s) = some (compare (signed neg (mag r) (place r - b)) (signed neg (mag s) (place s - b))) ∧ b ≤ place r ∧ b ≤ place s := by
  refine ⟨min (place r) (place s), ?_, by omega, by omega⟩
  unfold Format.order
  rw [read_word neg r hr, read_word neg s hs]
  unfold Datum.order
  have e : min (-1074 + (place r : Int)) (-1074 + (place s : Int)) = -1074 + ((min (place r) (place s) : Nat) : Int) := by omega
  have e1 : (-1074 + (place r : Int) - (-1074 + ((min (place r) (place s) : Nat) : Int))).toNat = place r - min (place r) (place s) := by omega
  have e2 : (-1074 + (place s : Int) - (-1074 + ((min (place r) (place s) : Nat) : Int))).toNat = place s - min (place r) (place s) := by omega
  simp only [e, e1, e2]

theorem val_shift {m p n q b : Nat} (hp : b ≤ p) (hq : b ≤ q) (h : m * 2 ^ p ≤ n * 2 ^ q) : m <<< (p - b) ≤ n <<< (q - b) := by
  rw [Nat.shiftLeft_eq, Nat.shiftLeft_eq]
  obtain ⟨p', rfl⟩ : ∃ p', p = p' + b := ⟨p - b, by omega⟩
  obtain ⟨q', rfl⟩ : ∃ q', q = q' + b := ⟨q - b, by omega⟩
  rw [Nat.pow_add, Nat.pow_add, ← Nat.mul_assoc, ← Nat.mul_assoc] at h
  have := Nat.le_of_mul_le_mul_right h (Nat.two_pow_pos b)
  simpa using this

theorem signed_f (m u : Nat) : signed false m u = ((m <<< u : Nat) : Int) := by simp only [signed]; rfl
theorem signed_t (m u : Nat) : signed true m u = -((m <<< u : Nat) : Int) := by simp only [signed]; rfl
theorem cle (a b : Int) (h : a ≤ b) : (some (compare a b) == some Ordering.lt || some (compare a b) == some Ordering.eq) = true := by
  rcases Int.lt_or_eq_of_le h with k | k
  · rw [Std.compare_eq_lt.2 k]; rfl
  · subst k; rw [Std.compare_self]; rfl
theorem cge (a b : Int) (h : b ≤ a) : (some (compare a b) == some Ordering.gt || some (compare a b) == some Ordering.eq) = true := by
  rcases Int.lt_or_eq_of_le h with k | k
  · rw [Std.compare_eq_gt.2 k]; rfl
  · subst k; rw [Std.compare_self]; rfl

/-- x is at most y; y is at least x. -/
def Leq (x y : Nat) : Prop := (double.order x y == some .lt || double.order x y == some .eq) = true ∧ (double.order y x == some .gt || double.order y x == some .eq) = true

/-- The lesser rung, both above nought. -/
theorem leq_pos {r s : Nat} (hr : r < 2047 * 2 ^ 52) (hs : s < 2047 * 2 ^ 52) (h : r ≤ s) : Leq (double.word false r) (double.word false s) := by
  have hv := val_mono h
  obtain ⟨b, e, h1, h2⟩ := order_words false hr hs
  obtain ⟨b', e', h1', h2'⟩ := order_words false hs hr
  have k := val_shift h1 h2 hv
  have k' := val_shift h2' h1' hv
  unfold Leq
  rw [e, e']
  refine ⟨cle _ _ ?_, cge _ _ ?_⟩
  · rw [signed_f, signed_f]; exact Int.ofNat_le.2 k
  · rw [signed_f, signed_f]; exact Int.ofNat_le.2 k'

/-- The lesser rung, both below nought. -/
theorem leq_neg {r s : Nat} (hr : r < 2047 * 2 ^ 52) (hs : s < 2047 * 2 ^ 52) (h : r ≤ s) : Leq (double.word true s) (double.word true r) := by
  have hv := val_mono h
  obtain ⟨b, e, h1, h2⟩ := order_words true hr hs
  obtain ⟨b', e', h1', h2'⟩ := order_words true hs hr
  have k := val_shift h1 h2 hv
  have k' := val_shift h2' h1' hv
  unfold Leq
  rw [e, e']
  refine ⟨cle _ _ ?_, cge _ _ ?_⟩
  · rw [signed_t, signed_t]; exact Int.neg_le_neg (Int.ofNat_le.2 k')
  · rw [signed_t, signed_t]; exact Int.neg_le_neg (Int.ofNat_le.2 k)

theorem neg_le_nat (x y : Nat) : -(x : Int) ≤ (y : Int) := by omega
/-- One not above nought, one not below it. -/
theorem leq_sides {r s : Nat} (hr : r < 2047 * 2 ^ 52) (hs : s < 2047 * 2 ^ 52) : Leq (double.word true r) (double.word false s) := by
  unfold Leq Format.order
  rw [read_word true r hr, read_word false s hs]
  unfold Datum.order
  refine ⟨cle _ _ ?_, cge _ _ ?_⟩
  · rw [signed_t, signed_f]; exact neg_le_nat _ _
  · rw [signed_t, signed_f]; exact neg_le_nat _ _

/-- The rung of a whole number. -/
def rung (a : Nat) : Nat := if a = 0 then 0 else (a.log2 + 1022) * 2 ^ 52 + a * 2 ^ (52 - a.log2)

theorem log_le {a : Nat} (h : a < 2 ^ 53) : a.log2 ≤ 52 := by
  rcases Nat.eq_zero_or_pos a with rfl | h0
  · decide
  · have := (Nat.log2_lt (n := a) (k := 53) (by omega)).2 h
    omega

/-- Its digits, brought up to 53. -/
theorem kept_in {a : Nat} (h0 : a ≠ 0) (h : a < 2 ^ 53) : 2 ^ 52 ≤ a * 2 ^ (52 - a.log2) ∧ a * 2 ^ (52 - a.log2) < 2 ^ 53 := by
  have hl := log_le h
  have h1 : 2 ^ a.log2 ≤ a := Nat.log2_self_le h0
  have h2 : a < 2 ^ (a.log2 + 1) := Nat.lt_log2_self
  have e : 2 ^ a.log2 * 2 ^ (52 - a.log2) = 2 ^ 52 := by rw [← Nat.pow_add]; congr 1; omega
  have e2 : 2 ^ (a.log2 + 1) * 2 ^ (52 - a.log2) = 2 ^ 53 := by rw [← Nat.pow_add]; congr 1; omega
  have hp : 0 < 2 ^ (52 - a.log2) := Nat.two_pow_pos _
  exact ⟨e ▸ Nat.mul_le_mul_right _ h1, e2 ▸ Nat.mul_lt_mul_of_pos_right h2 hp⟩

theorem rung_lt {a : Nat} (h : a < 2 ^ 53) : rung a < 2047 * 2 ^ 52 := by
  unfold rung
  split
  · decide
  · rename_i h0
    have := (kept_in h0 h).2
    have := log_le h
    omega

theorem cut_none (neg : Bool) (n : Nat) : Toward.even.cut neg n 0 = n := by
  unfold Toward.cut
  have e : 1 <<< min 0 (n.log2 + 2) = 1 := by rw [Nat.zero_min]; rfl
  simp only [e, Nat.div_one, Nat.mod_one]
  simp

theorem near_small (neg : Bool) {a : Nat} (h : a < 2 ^ 53) : double.nearest neg a 0 = double.word neg (rung a) := by
  unfold Format.nearest rung
  by_cases h0 : a = 0
  · simp [h0]
  · rw [if_neg h0, if_neg h0]
    have hl := log_le h
    have hk := kept_in h0 h
    have hB : double.binade = 2 ^ 52 := by decide
    have hI : double.infRung = 2047 * 2 ^ 52 := by decide
    have hL : double.leastPlace = -1074 := by decide
    have hF : double.fractionBits = 52 := by decide
    have e1 : max ((0 : Int) + (a.log2 : Int) - (double.fractionBits : Int)) double.leastPlace = (a.log2 : Int) - 52 := by rw [hL, hF]; omega
    simp only [e1]
    have e2 : ((0 : Int) - ((a.log2 : Int) - 52)).toNat = 52 - a.log2 := by omega
    have e3 : (((a.log2 : Int) - 52) - 0).toNat = 0 := by omega
    have e4 : (((a.log2 : Int) - 52) - double.leastPlace).toNat = a.log2 + 1022 := by rw [hL]; omega
    rw [e2, e3, e4, cut_none, Nat.shiftLeft_eq, hB, hI, Nat.min_eq_left (by omega)]

theorem mag_rung {a : Nat} (h0 : a ≠ 0) (h : a < 2 ^ 53) : mag (rung a) = a * 2 ^ (52 - a.log2) ∧ place (rung a) = a.log2 + 1022 := by
  have hk := kept_in h0 h
  unfold mag place rung
  rw [if_neg h0]
  generalize a * 2 ^ (52 - a.log2) = k at *
  have : ¬ (a.log2 + 1022) * 2 ^ 52 + k < 2 ^ 52 := by omega
  rw [if_neg this]
  constructor <;> omega

theorem read_small (neg : Bool) {a : Nat} (h0 : a ≠ 0) (h : a < 2 ^ 53) : double.read (double.nearest neg a 0) = .number neg (a * 2 ^ (52 - a.log2)) ((a.log2 : Int) - 52) := by
  rw [near_small neg h, read_word neg _ (rung_lt h), (mag_rung h0 h).1, (mag_rung h0 h).2]
  have e : (-1074 + ((a.log2 + 1022 : Nat) : Int)) = (a.log2 : Int) - 52 := by omega
  rw [e]

theorem log_kept {a : Nat} (h0 : a ≠ 0) (h : a < 2 ^ 53) : (a * 2 ^ (52 - a.log2)).log2 = 52 := by
  have hk := kept_in h0 h
  have h1 : 52 ≤ (a * 2 ^ (52 - a.log2)).log2 := (Nat.le_log2 (by omega)).2 hk.1
  have h2 := (Nat.log2_lt (n := a * 2 ^ (52 - a.log2)) (k := 53) (by omega)).2 hk.2
  omega

/-- The quotient's digits, one more that tells of a rest. -/
def quo (m n : Nat) : Nat := 2 * (m * 2 ^ 54 / n) + (m * 2 ^ 54 % n != 0).toNat

theorem quo_in {m n : Nat} (hm : 2 ^ 52 ≤ m) (hm' : m < 2 ^ 53) (hn : 2 ^ 52 ≤ n) (hn' : n < 2 ^ 53) : 2 ^ 54 ≤ quo m n ∧ quo m n < 2 ^ 56 := by
  have h1 : 2 ^ 53 ≤ m * 2 ^ 54 / n := (Nat.le_div_iff_mul_le (by omega)).2 (by omega)
  have h2 : m * 2 ^ 54 / n < 2 ^ 55 := (Nat.div_lt_iff_lt_mul (by omega)).2 (by omega)
  unfold quo
  have : (m * 2 ^ 54 % n != 0).toNat ≤ 1 := Bool.toNat_le _
  omega

theorem log_quo {q : Nat} (h : 2 ^ 54 ≤ q) (h' : q < 2 ^ 56) : q.log2 = 54 ∨ q.log2 = 55 := by
  have h1 : 54 ≤ q.log2 := (Nat.le_log2 (by omega)).2 h
  have h2 := (Nat.log2_lt (n := q) (k := 56) (by omega)).2 h'
  omega

/-- Rounded. -/
def rnd (q d : Nat) : Nat := Toward.even.cut false q d

theorem cut_neg (neg : Bool) (q d : Nat) : Toward.even.cut neg q d = rnd q d := rfl

theorem rnd_eq {q d : Nat} (hd : d ≤ q.log2 + 2) : rnd q d = q / 2 ^ d + (decide (2 ^ d < 2 * (q % 2 ^ d)) || (2 ^ d == 2 * (q % 2 ^ d) && q / 2 ^ d % 2 == 1)).toNat := by
  unfold rnd Toward.cut
  have e : 1 <<< min d (q.log2 + 2) = 2 ^ d := by rw [Nat.min_eq_left hd, Nat.one_shiftLeft]
  simp only [e]

theorem rnd_ge {q d k : Nat} (hd : d ≤ q.log2 + 2) (h : k * 2 ^ d ≤ q) : k ≤ rnd q d := by
  rw [rnd_eq hd]
  have : k ≤ q / 2 ^ d := (Nat.le_div_iff_mul_le (Nat.two_pow_pos d)).2 h
  omega

theorem rnd_le {q d k : Nat} (hd : d ≤ q.log2 + 2) (h : q ≤ k * 2 ^ d) : rnd q d ≤ k := by
  rw [rnd_eq hd]
  have hp := Nat.two_pow_pos d
  have h1 : q / 2 ^ d ≤ k := Nat.div_le_of_le_mul (by rw [Nat.mul_comm]; exact h)
  rcases Nat.lt_or_eq_of_le h1 with h2 | h2
  · have := Bool.toNat_le (decide (2 ^ d < 2 * (q % 2 ^ d)) || (2 ^ d == 2 * (q % 2 ^ d) && q / 2 ^ d % 2 == 1))
    omega
  · have h3 : q % 2 ^ d = 0 := by
      have := Nat.div_add_mod q (2 ^ d)
      rw [h2, Nat.mul_comm] at this
      omega
    rw [h3]
    have e : (decide (2 ^ d < 2 * 0) || (2 ^ d == 2 * 0 && q / 2 ^ d % 2 == 1)) = false := by
      have h4 : ¬ 2 ^ d = 2 * 0 := by omega
      simp
    rw [e]
    simp
    omega

/-- The rung of a quotient. -/
def qrung (a n : Nat) : Nat := ((a.log2 + 1022 + (quo (a * 2 ^ (52 - a.log2)) (n * 2 ^ (52 - n.log2))).log2) - (n.log2 + 55)) * 2 ^ 52 + rnd (quo (a * 2 ^ (52 - a.log2)) (n * 2 ^ (52 - n.log2))) ((quo (a * 2 ^ (52 - a.log2)) (n * 2 ^ (52 - n.log2))).log2 - 52)

theorem div_small (s t : Bool) {a n : Nat} (ha0 : a ≠ 0) (ha : a < 2 ^ 53) (hn0 : n ≠ 0) (hn : n < 2 ^ 53) :
    double.div (double.nearest s a 0) (double.nearest t n 0) = some (double.word (s ^^ t) (qrung a n)) ∧ qrung a n < 2047 * 2 ^ 52 := by
  have hF : double.fractionBits = 52 := by decide
  have hB : double.binade = 2 ^ 52 := by decide
  have hI : double.infRung = 2047 * 2 ^ 52 := by decide
  have hL : double.leastPlace = -1074 := by decide
  have la := log_le ha
  have ln := log_le hn
  have ka := kept_in ha0 ha
  have kn := kept_in hn0 hn
  have ga := log_kept ha0 ha
  have gn := log_kept hn0 hn
  unfold Format.div qrung
  rw [read_small s ha0 ha, read_small t hn0 hn, hF]
  generalize a * 2 ^ (52 - a.log2) = m at *
  generalize n * 2 ^ (52 - n.log2) = k at *
  obtain ⟨q1, q2⟩ := quo_in ka.1 ka.2 kn.1 kn.2
  have hk0 : ¬ k = 0 := by omega
  have e0 : 52 + 2 + k.log2 - m.log2 = 54 := by rw [ga, gn]
  have e1 : Datum.quotient (52 + 2) (.number s m ((a.log2 : Int) - 52)) (.number t k ((n.log2 : Int) - 52)) = some (.number (s ^^ t) (quo m k) ((a.log2 : Int) - 52 - ((n.log2 : Int) - 52) - (54 : Nat) - 1)) := by
    unfold Datum.quotient
    simp only [hk0, if_false, e0, Nat.shiftLeft_eq]
    rfl
  rw [e1]
  have hq := log_quo q1 q2
  have hr : rnd (quo m k) ((quo m k).log2 - 52) ≤ 2 ^ 53 := rnd_le (by omega) (by
    have := Nat.lt_log2_self (n := quo m k)
    have e : 2 ^ 53 * 2 ^ ((quo m k).log2 - 52) = 2 ^ ((quo m k).log2 + 1) := by rw [← Nat.pow_add]; congr 1; omega
    omega)
  generalize quo m k = q at *
  refine ⟨?_, by omega⟩
  show some (double.nearest _ _ _) = _
  unfold Format.nearest
  have hq0 : ¬ q = 0 := by omega
  rw [if_neg hq0]
  have e2 : max ((a.log2 : Int) - 52 - ((n.log2 : Int) - 52) - (54 : Nat) - 1 + (q.log2 : Int) - (double.fractionBits : Int)) double.leastPlace = (a.log2 : Int) - (n.log2 : Int) - 55 + (q.log2 : Int) - 52 := by rw [hF, hL]; omega
  simp only [e2]
  have e3 : ((a.log2 : Int) - 52 - ((n.log2 : Int) - 52) - (54 : Nat) - 1 - ((a.log2 : Int) - (n.log2 : Int) - 55 + (q.log2 : Int) - 52)).toNat = 0 := by omega
  have e4 : ((a.log2 : Int) - (n.log2 : Int) - 55 + (q.log2 : Int) - 52 - ((a.log2 : Int) - 52 - ((n.log2 : Int) - 52) - (54 : Nat) - 1)).toNat = q.log2 - 52 := by omega
  have e5 : ((a.log2 : Int) - (n.log2 : Int) - 55 + (q.log2 : Int) - 52 - double.leastPlace).toNat = a.log2 + 1022 + q.log2 - (n.log2 + 55) := by rw [hL]; omega
  rw [e3, e4, e5, cut_neg, Nat.shiftLeft_zero, hB, hI, Nat.min_eq_left (by omega)]

theorem pow_lt_of {c x y : Nat} (h : c * 2 ^ x < c * 2 ^ y) : x < y := (Nat.pow_lt_pow_iff_right (by omega)).1 (Nat.lt_of_mul_lt_mul_left h)

theorem quo_ge {m k x : Nat} (hk : 0 < k) (h : x * k ≤ m * 2 ^ 54) : 2 * x ≤ quo m k := by
  have : x ≤ m * 2 ^ 54 / k := (Nat.le_div_iff_mul_le hk).2 h
  unfold quo
  omega

theorem quo_le {m k x : Nat} (h : m * 2 ^ 54 ≤ x * k) : quo m k ≤ 2 * x := by
  have h1 : m * 2 ^ 54 / k ≤ x := Nat.div_le_of_le_mul (by rw [Nat.mul_comm k x]; exact h)
  unfold quo
  rcases Nat.lt_or_eq_of_le h1 with h2 | h2
  · have := Bool.toNat_le (m * 2 ^ 54 % k != 0)
    omega
  · have h3 : m * 2 ^ 54 % k = 0 := by
      have := Nat.div_add_mod (m * 2 ^ 54) k
      rw [h2, Nat.mul_comm] at this
      omega
    rw [h3, h2]
    simp

theorem qrung_ge {a n b : Nat} (ha0 : a ≠ 0) (ha : a < 2 ^ 53) (hn0 : n ≠ 0) (hn : n < 2 ^ 53) (hb : b < 2 ^ 53) (h : n * b ≤ a) : rung b ≤ qrung a n := by
  by_cases hb0 : b = 0
  · subst hb0; simp [rung]
  have la := log_le ha
  have ln := log_le hn
  have lb := log_le hb
  have ka := kept_in ha0 ha
  have kn := kept_in hn0 hn
  have kb := kept_in hb0 hb
  have b1 := Nat.log2_self_le hb0
  obtain ⟨q1, q2⟩ := quo_in ka.1 ka.2 kn.1 kn.2
  have hq := log_quo q1 q2
  have g1 := Nat.log2_self_le (n := quo (a * 2 ^ (52 - a.log2)) (n * 2 ^ (52 - n.log2))) (by omega)
  have g2 := Nat.lt_log2_self (n := quo (a * 2 ^ (52 - a.log2)) (n * 2 ^ (52 - n.log2)))
  have k0 : 0 < n * 2 ^ (52 - n.log2) := by omega
  have hG := @quo_ge (a * 2 ^ (52 - a.log2)) (n * 2 ^ (52 - n.log2)) (b * 2 ^ (52 - b.log2) * 2 ^ ((quo (a * 2 ^ (52 - a.log2)) (n * 2 ^ (52 - n.log2))).log2 - 53)) k0
  have hQ : quo (a * 2 ^ (52 - a.log2)) (n * 2 ^ (52 - n.log2)) = 2 * (a * 2 ^ (52 - a.log2) * 2 ^ 54 / (n * 2 ^ (52 - n.log2))) + (a * 2 ^ (52 - a.log2) * 2 ^ 54 % (n * 2 ^ (52 - n.log2)) != 0).toNat := rfl
  unfold rung qrung
  rw [if_neg hb0]
  generalize quo (a * 2 ^ (52 - a.log2)) (n * 2 ^ (52 - n.log2)) = q at *
  have r1 : 2 ^ 52 ≤ rnd q (q.log2 - 52) := rnd_ge (by omega) (by
    have e : 2 ^ 52 * 2 ^ (q.log2 - 52) = 2 ^ q.log2 := by rw [← Nat.pow_add]; congr 1; omega
    omega)
  -- the quotient is below 2 to the power of its digits
  have d1 : a * 2 ^ (52 - a.log2) * 2 ^ 54 < 2 ^ q.log2 * (n * 2 ^ (52 - n.log2)) := by
    have : a * 2 ^ (52 - a.log2) * 2 ^ 54 / (n * 2 ^ (52 - n.log2)) < 2 ^ q.log2 := by
      rw [Nat.pow_succ] at g2
      omega
    exact (Nat.div_lt_iff_lt_mul k0).1 this
  have d2 : n * 2 ^ (b.log2 + (52 - a.log2) + 54) < n * 2 ^ (q.log2 + (52 - n.log2)) := by
    calc n * 2 ^ (b.log2 + (52 - a.log2) + 54) = (n * 2 ^ b.log2) * 2 ^ (52 - a.log2) * 2 ^ 54 := by rw [Nat.pow_add, Nat.pow_add, ← Nat.mul_assoc, ← Nat.mul_assoc]
      _ ≤ a * 2 ^ (52 - a.log2) * 2 ^ 54 := Nat.mul_le_mul_right _ (Nat.mul_le_mul_right _ (Nat.le_trans (Nat.mul_le_mul_left _ b1) h))
      _ < 2 ^ q.log2 * (n * 2 ^ (52 - n.log2)) := d1
      _ = n * 2 ^ (q.log2 + (52 - n.log2)) := by rw [Nat.pow_add, Nat.mul_left_comm]
  have d3 := pow_lt_of d2
  clear d1 d2 g1 g2
  rcases Nat.lt_or_ge (b.log2 + n.log2 + 55) (a.log2 + q.log2) with hlt | hge
  · omega
  · have e : a.log2 + 1022 + q.log2 - (n.log2 + 55) = b.log2 + 1022 := by omega
    rw [e]
    refine Nat.add_le_add_left (rnd_ge (by omega) ?_) _
    have e2 : b * 2 ^ (52 - b.log2) * 2 ^ (q.log2 - 52) = 2 * (b * 2 ^ (52 - b.log2) * 2 ^ (q.log2 - 53)) := by
      have : q.log2 - 52 = (q.log2 - 53) + 1 := by omega
      rw [this, Nat.pow_succ, ← Nat.mul_assoc, Nat.mul_comm _ 2]
    rw [e2]
    refine hG ?_
    calc b * 2 ^ (52 - b.log2) * 2 ^ (q.log2 - 53) * (n * 2 ^ (52 - n.log2)) = (n * b) * 2 ^ ((52 - b.log2) + (q.log2 - 53) + (52 - n.log2)) := by
          rw [Nat.pow_add, Nat.pow_add]
          simp only [Nat.mul_assoc, Nat.mul_comm, Nat.mul_left_comm]
      _ ≤ a * 2 ^ ((52 - b.log2) + (q.log2 - 53) + (52 - n.log2)) := Nat.mul_le_mul_right _ h
      _ = a * 2 ^ ((52 - a.log2) + 54) := by congr 2; omega
      _ = a * 2 ^ (52 - a.log2) * 2 ^ 54 := by rw [Nat.pow_add, ← Nat.mul_assoc]

theorem qrung_le {a n b : Nat} (ha0 : a ≠ 0) (ha : a < 2 ^ 53) (hn0 : n ≠ 0) (hn : n < 2 ^ 53) (hb : b < 2 ^ 53) (h : a ≤ n * b) : qrung a n ≤ rung b := by
  have hb0 : b ≠ 0 := fun e => by subst e; omega
  have la := log_le ha
  have ln := log_le hn
  have lb := log_le hb
  have ka := kept_in ha0 ha
  have kn := kept_in hn0 hn
  have kb := kept_in hb0 hb
  have b2 := Nat.lt_log2_self (n := b)
  obtain ⟨q1, q2⟩ := quo_in ka.1 ka.2 kn.1 kn.2
  have hq := log_quo q1 q2
  have g1 := Nat.log2_self_le (n := quo (a * 2 ^ (52 - a.log2)) (n * 2 ^ (52 - n.log2))) (by omega)
  have g2 := Nat.lt_log2_self (n := quo (a * 2 ^ (52 - a.log2)) (n * 2 ^ (52 - n.log2)))
  have k0 : 0 < n * 2 ^ (52 - n.log2) := by omega
  have hG := @quo_le (a * 2 ^ (52 - a.log2)) (n * 2 ^ (52 - n.log2)) (b * 2 ^ (52 - b.log2) * 2 ^ ((quo (a * 2 ^ (52 - a.log2)) (n * 2 ^ (52 - n.log2))).log2 - 53))
  have hQ : quo (a * 2 ^ (52 - a.log2)) (n * 2 ^ (52 - n.log2)) = 2 * (a * 2 ^ (52 - a.log2) * 2 ^ 54 / (n * 2 ^ (52 - n.log2))) + (a * 2 ^ (52 - a.log2) * 2 ^ 54 % (n * 2 ^ (52 - n.log2)) != 0).toNat := rfl
  have hbt := Bool.toNat_le (a * 2 ^ (52 - a.log2) * 2 ^ 54 % (n * 2 ^ (52 - n.log2)) != 0)
  unfold rung qrung
  rw [if_neg hb0]
  generalize quo (a * 2 ^ (52 - a.log2)) (n * 2 ^ (52 - n.log2)) = q at *
  have r1 : rnd q (q.log2 - 52) ≤ 2 ^ 53 := rnd_le (by omega) (by
    have e : 2 ^ 53 * 2 ^ (q.log2 - 52) = 2 ^ (q.log2 + 1) := by rw [← Nat.pow_add]; congr 1; omega
    omega)
  have d1 : 2 ^ (q.log2 - 1) * (n * 2 ^ (52 - n.log2)) ≤ a * 2 ^ (52 - a.log2) * 2 ^ 54 := by
    have : 2 ^ (q.log2 - 1) ≤ a * 2 ^ (52 - a.log2) * 2 ^ 54 / (n * 2 ^ (52 - n.log2)) := by
      have e : 2 ^ q.log2 = 2 * 2 ^ (q.log2 - 1) := by rcases hq with h | h <;> rw [h]
      omega
    exact (Nat.le_div_iff_mul_le k0).1 this
  have d2 : n * 2 ^ (q.log2 - 1 + (52 - n.log2)) < n * 2 ^ (b.log2 + 1 + (52 - a.log2) + 54) := by
    calc n * 2 ^ (q.log2 - 1 + (52 - n.log2)) = 2 ^ (q.log2 - 1) * (n * 2 ^ (52 - n.log2)) := by rw [Nat.pow_add, Nat.mul_left_comm]
      _ ≤ a * 2 ^ (52 - a.log2) * 2 ^ 54 := d1
      _ ≤ (n * b) * 2 ^ (52 - a.log2) * 2 ^ 54 := Nat.mul_le_mul_right _ (Nat.mul_le_mul_right _ h)
      _ < (n * 2 ^ (b.log2 + 1)) * 2 ^ (52 - a.log2) * 2 ^ 54 := Nat.mul_lt_mul_of_pos_right (Nat.mul_lt_mul_of_pos_right (Nat.mul_lt_mul_of_pos_left b2 (by omega)) (Nat.two_pow_pos _)) (Nat.two_pow_pos _)
      _ = n * 2 ^ (b.log2 + 1 + (52 - a.log2) + 54) := by rw [Nat.pow_add 2 (b.log2 + 1 + (52 - a.log2)) 54, Nat.pow_add 2 (b.log2 + 1) (52 - a.log2), ← Nat.mul_assoc, ← Nat.mul_assoc]
  have d3 := pow_lt_of d2
  clear d1 d2 g1 g2
  rcases Nat.lt_or_ge (a.log2 + q.log2) (b.log2 + n.log2 + 55) with hlt | hge
  · omega
  · have e : a.log2 + 1022 + q.log2 - (n.log2 + 55) = b.log2 + 1022 := by omega
    rw [e]
    refine Nat.add_le_add_left (rnd_le (by omega) ?_) _
    have e2 : b * 2 ^ (52 - b.log2) * 2 ^ (q.log2 - 52) = 2 * (b * 2 ^ (52 - b.log2) * 2 ^ (q.log2 - 53)) := by
      have : q.log2 - 52 = (q.log2 - 53) + 1 := by omega
      rw [this, Nat.pow_succ, ← Nat.mul_assoc, Nat.mul_comm _ 2]
    rw [e2]
    refine hG ?_
    calc a * 2 ^ (52 - a.log2) * 2 ^ 54 = a * 2 ^ ((52 - a.log2) + 54) := by rw [Nat.pow_add, ← Nat.mul_assoc]
      _ = a * 2 ^ ((52 - b.log2) + (q.log2 - 53) + (52 - n.log2)) := by congr 2; omega
      _ ≤ (n * b) * 2 ^ ((52 - b.log2) + (q.log2 - 53) + (52 - n.log2)) := Nat.mul_le_mul_right _ h
      _ = b * 2 ^ (52 - b.log2) * 2 ^ (q.log2 - 53) * (n * 2 ^ (52 - n.log2)) := by
          rw [Nat.pow_add, Nat.pow_add]
          simp only [Nat.mul_assoc, Nat.mul_comm, Nat.mul_left_comm]

theorem int_lt_or_ge (a b : Int) : a < b ∨ b ≤ a := by omega

/-- A whole number as a word. -/
def ofInt (n : Int) : Nat := double.nearest (decide (n < 0)) n.natAbs 0

theorem ofInt_eq (n : Int) : floatOfInt .f64 n = ofInt n := rfl

/-- Any number of 64 bits is a number there, none but nought is nought. -/
theorem read_int (neg : Bool) {a : Nat} (h : a ≤ 2 ^ 64) : ∃ m p, double.read (double.nearest neg a 0) = .number neg m p ∧ (a ≠ 0 → m ≠ 0) := by
  rcases Nat.lt_or_ge a (2 ^ 53) with h1 | h1
  · rw [near_small neg h1, read_word neg _ (rung_lt h1)]
    refine ⟨_, _, rfl, fun h0 => mag_pos ?_⟩
    have := (kept_in h0 h1).1
    unfold rung
    rw [if_neg h0]
    omega
  · have h0 : ¬ a = 0 := by omega
    have l1 : 53 ≤ a.log2 := (Nat.le_log2 (by omega)).2 h1
    have l2 : a.log2 < 65 := (Nat.log2_lt (by omega)).2 (by omega)
    have hB : double.binade = 2 ^ 52 := by decide
    have hI : double.infRung = 2047 * 2 ^ 52 := by decide
    have hL : double.leastPlace = -1074 := by decide
    have hF : double.fractionBits = 52 := by decide
    have hr : rnd a (a.log2 - 52) ≤ 2 ^ 53 := rnd_le (by omega) (by
      have := Nat.lt_log2_self (n := a)
      have e : 2 ^ 53 * 2 ^ (a.log2 - 52) = 2 ^ (a.log2 + 1) := by rw [← Nat.pow_add]; congr 1; omega
      omega)
    have e : double.nearest neg a 0 = double.word neg ((a.log2 + 1022) * 2 ^ 52 + rnd a (a.log2 - 52)) := by
      unfold Format.nearest
      rw [if_neg h0]
      have e1 : max ((0 : Int) + (a.log2 : Int) - (double.fractionBits : Int)) double.leastPlace = (a.log2 : Int) - 52 := by rw [hL, hF]; omega
      simp only [e1]
      have e2 : ((0 : Int) - ((a.log2 : Int) - 52)).toNat = 0 := by omega
      have e3 : (((a.log2 : Int) - 52) - 0).toNat = a.log2 - 52 := by omega
      have e4 : (((a.log2 : Int) - 52) - double.leastPlace).toNat = a.log2 + 1022 := by rw [hL]; omega
      rw [e2, e3, e4, cut_neg, Nat.shiftLeft_zero, hB, hI, Nat.min_eq_left (by omega)]
    rw [e, read_word neg _ (by omega)]
    exact ⟨_, _, rfl, fun _ => mag_pos (by omega)⟩

/-- A quotient of whole numbers is one, if the lower one is not nought. -/
theorem div_some {s c : Int} (hs : s.natAbs ≤ 2 ^ 64) (hc : c.natAbs ≤ 2 ^ 64) (h0 : c ≠ 0) : ∃ r, floatBits .quo .f64 (floatOfInt .f64 s) (floatOfInt .f64 c) = some r := by
  obtain ⟨m, p, e1, _⟩ := read_int (decide (s < 0)) hs
  obtain ⟨n, q, e2, hn⟩ := read_int (decide (c < 0)) hc
  have hn0 : ¬ n = 0 := hn (by omega)
  show ∃ r, double.div (ofInt s) (ofInt c) = some r
  unfold Format.div ofInt
  rw [e1, e2]
  unfold Datum.quotient
  simp only [hn0, if_false]
  exact ⟨_, rfl⟩

/-- The mean of n numbers that are not below l and not above u. -/
theorem mean_in {s l u : Int} {n : Nat} {r : Nat} (hn0 : n ≠ 0) (hn : n < 2 ^ 53) (hs : s.natAbs < 2 ^ 53) (hl : l.natAbs < 2 ^ 53) (hu : u.natAbs < 2 ^ 53) (h1 : (n : Int) * l ≤ s) (h2 : s ≤ (n : Int) * u)
    (hr : floatBits .quo .f64 (floatOfInt .f64 s) (floatOfInt .f64 n) = some r) : Leq (floatOfInt .f64 l) r ∧ Leq r (floatOfInt .f64 u) := by
  have hr' : double.div (ofInt s) (ofInt n) = some r := hr
  have en : ofInt (n : Int) = double.nearest false n 0 := by unfold ofInt; rw [show decide ((n : Int) < 0) = false from decide_eq_false (by omega)]; rfl
  have el : floatOfInt .f64 l = double.word (decide (l < 0)) (rung l.natAbs) := near_small _ hl
  have eu : floatOfInt .f64 u = double.word (decide (u < 0)) (rung u.natAbs) := near_small _ hu
  rw [el, eu]
  rw [en] at hr'
  by_cases hs0 : s = 0
  · subst hs0
    have : r = double.word false 0 := by
      have e0 : ofInt 0 = double.word false 0 := by decide
      have er : double.read (double.word false 0) = .number false 0 (-1074) := by decide
      rw [e0] at hr'
      unfold Format.div at hr'
      rw [er, read_small false hn0 hn] at hr'
      have hk := (kept_in hn0 hn).1
      generalize n * 2 ^ (52 - n.log2) = k at *
      have hk0 : ¬ k = 0 := by omega
      unfold Datum.quotient at hr'
      simp only [hk0, if_false, Nat.zero_shiftLeft, Nat.zero_div, Nat.zero_mod] at hr'
      simp only [Option.map_some, Option.some.injEq] at hr'
      rw [← hr']
      show double.nearest _ _ _ = _
      unfold Format.nearest
      rw [if_pos (by decide)]
      rfl
    subst this
    have hn1 : (0 : Int) < n := by omega
    have l0 : l ≤ 0 := by
      rcases int_lt_or_ge 0 l with h | h
      · have := Int.mul_pos hn1 h; omega
      · exact h
    have u0 : 0 ≤ u := by
      rcases int_lt_or_ge u 0 with h | h
      · have := Int.mul_neg_of_pos_of_neg hn1 h; omega
      · exact h
    refine ⟨?_, ?_⟩
    · by_cases hl0 : l = 0
      · subst hl0; exact leq_pos (by decide) (by decide) (Nat.le_refl _)
      · have : decide (l < 0) = true := decide_eq_true (by omega)
        rw [this]; exact leq_sides (rung_lt hl) (by decide)
    · have : decide (u < 0) = false := decide_eq_false (by omega)
      rw [this]; exact leq_pos (by decide) (rung_lt hu) (Nat.zero_le _)
  · have ha0 : s.natAbs ≠ 0 := by omega
    obtain ⟨e, hq⟩ := div_small (decide (s < 0)) false ha0 hs hn0 hn
    have e' : double.div (ofInt s) (double.nearest false n 0) = some (double.word (decide (s < 0) ^^ false) (qrung s.natAbs n)) := e
    rw [e', Option.some.injEq] at hr'
    rw [← hr', Bool.xor_false]
    rcases int_lt_or_ge s 0 with hneg | hpos
    · have hd : decide (s < 0) = true := decide_eq_true hneg
      rw [hd]
      have hl0 : l < 0 := by
        rcases int_lt_or_ge l 0 with h | h
        · exact h
        · have := Int.mul_nonneg (show (0 : Int) ≤ n by omega) h; omega
      have hdl : decide (l < 0) = true := decide_eq_true hl0
      rw [hdl]
      refine ⟨leq_neg hq (rung_lt hl) (qrung_le ha0 hs hn0 hn hl ?_), ?_⟩
      · have : ((n * l.natAbs : Nat) : Int) = -((n : Int) * l) := by rw [Int.natCast_mul, Int.ofNat_natAbs_of_nonpos (by omega), Int.mul_neg]
        omega
      · rcases int_lt_or_ge u 0 with h | h
        · have hdu : decide (u < 0) = true := decide_eq_true h
          rw [hdu]
          refine leq_neg (rung_lt hu) hq (qrung_ge ha0 hs hn0 hn hu ?_)
          have : ((n * u.natAbs : Nat) : Int) = -((n : Int) * u) := by rw [Int.natCast_mul, Int.ofNat_natAbs_of_nonpos (by omega), Int.mul_neg]
          omega
        · have hdu : decide (u < 0) = false := decide_eq_false (by omega)
          rw [hdu]
          exact leq_sides hq (rung_lt hu)
    · have hd : decide (s < 0) = false := decide_eq_false (by omega)
      rw [hd]
      have hu0 : 0 < u := by
        rcases int_lt_or_ge 0 u with h | h
        · exact h
        · have := Int.mul_nonpos_of_nonneg_of_nonpos (show (0 : Int) ≤ n by omega) h; omega
      have hdu : decide (u < 0) = false := decide_eq_false (by omega)
      rw [hdu]
      refine ⟨?_, leq_pos hq (rung_lt hu) (qrung_le ha0 hs hn0 hn hu ?_)⟩
      · rcases int_lt_or_ge l 0 with h | h
        · have hdl : decide (l < 0) = true := decide_eq_true h
          rw [hdl]
          exact leq_sides (rung_lt hl) hq
        · have hdl : decide (l < 0) = false := decide_eq_false (by omega)
          rw [hdl]
          refine leq_pos (rung_lt hl) hq (qrung_ge ha0 hs hn0 hn hl ?_)
          have : ((n * l.natAbs : Nat) : Int) = (n : Int) * l := by rw [Int.natCast_mul, Int.natAbs_of_nonneg h]
          omega
      · have : ((n * u.natAbs : Nat) : Int) = (n : Int) * u := by rw [Int.natCast_mul, Int.natAbs_of_nonneg (by omega)]
        omega

end Fl
end Go.Proofs.YtakpeopghhblmaaDoor
