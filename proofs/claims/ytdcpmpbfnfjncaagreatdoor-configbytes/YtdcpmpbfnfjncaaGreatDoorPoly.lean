/- The plain mathematics of CRC-32C: steps of numbers of any size, texts as numbers, linear maps, products, and runs of at most 32 bits. -/
import Derived.WalkKit
namespace Go.Proofs.YtdcpmpbfnfjncaaGreatDoor.Crcx

/-- A step of a number (of any size). -/
def stp (x : Nat) : Nat := if x % 2 = 1 then x / 2 ^^^ 2197175160 else x / 2

/-- Steps. -/
def stps : Nat → Nat → Nat
  | 0, x => x
  | n + 1, x => stps n (stp x)

theorem stps_zero (x : Nat) : stps 0 x = x := rfl
theorem stps_succ (n x : Nat) : stps (n + 1) x = stps n (stp x) := rfl
theorem stps_add (m n x : Nat) : stps (m + n) x = stps n (stps m x) := by
  induction m generalizing x with
  | zero => rw [Nat.zero_add]; rfl
  | succ m ih => rw [Nat.succ_add]; exact ih _
theorem stps_last (n x : Nat) : stps (n + 1) x = stp (stps n x) := stps_add n 1 x

theorem xor_mod2 (a b : Nat) : (a ^^^ b) % 2 = (a % 2 + b % 2) % 2 := by
  have h := Nat.xor_mod_two_pow (a := a) (b := b) (n := 1)
  rw [Nat.pow_one] at h
  rw [h]
  rcases Nat.mod_two_eq_zero_or_one a with x | x <;> rcases Nat.mod_two_eq_zero_or_one b with y | y <;> rw [x, y] <;> decide

theorem xor_div2 (a b : Nat) : (a ^^^ b) / 2 = a / 2 ^^^ b / 2 := by
  have h := Nat.xor_div_two_pow (a := a) (b := b) (n := 1)
  rwa [Nat.pow_one] at h

theorem xor_four (a b c : Nat) : (a ^^^ c) ^^^ (b ^^^ c) = a ^^^ b := by
  rw [Nat.xor_assoc, ← Nat.xor_assoc c b c, Nat.xor_comm c b, Nat.xor_assoc b c c, Nat.xor_self, Nat.xor_zero]

theorem stp_xor (a b : Nat) : stp (a ^^^ b) = stp a ^^^ stp b := by
  unfold stp
  rw [xor_mod2, xor_div2]
  rcases Nat.mod_two_eq_zero_or_one a with x | x <;> rcases Nat.mod_two_eq_zero_or_one b with y | y <;> rw [x, y] <;> simp only [Nat.reduceAdd, Nat.reduceMod, Nat.reduceEqDiff, if_true, if_false]
  · rw [Nat.xor_assoc]
  · rw [Nat.xor_assoc, Nat.xor_comm (b / 2), ← Nat.xor_assoc]
  · rw [xor_four]

theorem stp_even (x : Nat) : stp (2 * x) = x := by
  unfold stp
  rw [if_neg (by omega)]; omega

theorem stp_zero : stp 0 = 0 := by decide

theorem stps_xor (n a b : Nat) : stps n (a ^^^ b) = stps n a ^^^ stps n b := by
  induction n generalizing a b with
  | zero => rfl
  | succ n ih => rw [stps_succ, stp_xor, ih]; rfl

theorem stps_nought (n : Nat) : stps n 0 = 0 := by
  induction n with
  | zero => rfl
  | succ n ih => rw [stps_succ, stp_zero]; exact ih

theorem stps_high (n x : Nat) : stps n (2 ^ n * x) = x := by
  induction n with
  | zero => simp [stps]
  | succ n ih => rw [stps_succ, Nat.pow_succ, Nat.mul_comm (2 ^ n) 2, Nat.mul_assoc, stp_even]; exact ih

theorem xor_eq_zero {a b : Nat} (e : a ^^^ b = 0) : a = b := by
  have h : a ^^^ b ^^^ b = a := by rw [Nat.xor_assoc, Nat.xor_self, Nat.xor_zero]
  rw [e, Nat.zero_xor] at h
  exact h.symm

theorem xor_lt {a b : Nat} (ha : a < 4294967296) (hb : b < 4294967296) : a ^^^ b < 4294967296 := Nat.xor_lt_two_pow (n := 32) ha hb

theorem stp_lt {x : Nat} (h : x < 4294967296) : stp x < 4294967296 := by
  unfold stp
  split
  · exact xor_lt (by omega) (by omega)
  · omega

theorem stps_lt {n x : Nat} (h : x < 4294967296) : stps n x < 4294967296 := by
  induction n generalizing x with
  | zero => exact h
  | succ n ih => exact ih (stp_lt h)

theorem stp_inj {x : Nat} (h : x < 4294967296) (e : stp x = 0) : x = 0 := by
  unfold stp at e
  split at e
  · have : x / 2 = 2197175160 := xor_eq_zero e
    omega
  · omega

theorem stps_inj {n x : Nat} (h : x < 4294967296) (e : stps n x = 0) : x = 0 := by
  induction n generalizing x with
  | zero => exact e
  | succ n ih => exact stp_inj h (ih (stp_lt h) e)

/-- The number is its high part and its low one. -/
theorem high_low (n x : Nat) : 2 ^ n * (x / 2 ^ n) ^^^ x % 2 ^ n = x := by
  apply Nat.eq_of_testBit_eq
  intro i
  rw [Nat.testBit_xor, Nat.testBit_two_pow_mul, Nat.testBit_mod_two_pow, Nat.testBit_div_two_pow]
  by_cases h : n ≤ i
  · have e : ¬ i < n := by omega
    have f : i - n + n = i := by omega
    simp [h, e, f]
  · have e : i < n := by omega
    simp [h, e]

theorem stps_part (n x : Nat) : stps n x = x / 2 ^ n ^^^ stps n (x % 2 ^ n) := by
  conv => lhs; rw [← high_low n x]
  rw [stps_xor, stps_high]

/-- Four steps by a lookup. -/
theorem stps_four (x : Nat) : stps 4 x = x / 16 ^^^ stps 4 (x % 16) := stps_part 4 x

theorem stps_eight (x : Nat) : stps 8 x = stps 4 x / 16 ^^^ stps 4 (stps 4 x % 16) := by
  rw [← stps_four, ← stps_add]

/-- A text as a number, its first byte the lowest. -/
def val : List Nat → Nat
  | [] => 0
  | b :: t => b ^^^ 256 * val t

theorem val_nil : val [] = 0 := rfl
theorem val_cons (b : Nat) (t : List Nat) : val (b :: t) = b ^^^ 256 * val t := rfl

/-- The bytes of a text, one by one, from the state x on. -/
def run (x : Nat) : List Nat → Nat
  | [] => x
  | b :: t => run (stps 8 (x ^^^ b)) t

theorem run_nil (x : Nat) : run x [] = x := rfl
theorem run_cons (x b : Nat) (t : List Nat) : run x (b :: t) = run (stps 8 (x ^^^ b)) t := rfl
theorem run_append (x : Nat) (a b : List Nat) : run x (a ++ b) = run (run x a) b := by
  induction a generalizing x with
  | nil => rfl
  | cons c t ih => exact ih _
theorem run_snoc (x : Nat) (a : List Nat) (b : Nat) : run x (a ++ [b]) = stps 8 (run x a ^^^ b) := run_append x a [b]

theorem run_eq (x : Nat) (l : List Nat) : run x l = stps (8 * l.length) (x ^^^ val l) := by
  induction l generalizing x with
  | nil => rw [run_nil, val_nil, Nat.xor_zero, List.length_nil, Nat.mul_zero, stps_zero]
  | cons b t ih =>
    rw [run_cons, ih, List.length_cons, show 8 * (t.length + 1) = 8 + 8 * t.length by omega, stps_add, val_cons, ← Nat.xor_assoc, stps_xor 8 (x ^^^ b), show (256 : Nat) = 2 ^ 8 by decide, stps_high]

theorem run_xor (x y : Nat) (l : List Nat) : run (x ^^^ y) l = run x l ^^^ stps (8 * l.length) y := by
  rw [run_eq, run_eq, ← stps_xor]
  congr 1
  rw [Nat.xor_assoc, Nat.xor_comm y, ← Nat.xor_assoc]

theorem run_lt {x : Nat} {l : List Nat} (hx : x < 4294967296) (hl : ∀ b ∈ l, b < 256) : run x l < 4294967296 := by
  induction l generalizing x with
  | nil => exact hx
  | cons b t ih =>
    have hb := hl b (List.mem_cons_self ..)
    rw [run_cons]
    refine ih ?_ (fun c hc => hl c (List.mem_cons_of_mem _ hc))
    exact stps_lt (xor_lt hx (by omega))

/-- All ones. -/
theorem turned {x : Nat} (h : x < 4294967296) : 4294967295 ^^^ x = 4294967295 - x := by
  apply Nat.eq_of_testBit_eq
  intro i
  have := Nat.testBit_two_pow_sub_succ (x := x) (n := 32) h i
  rw [show 2 ^ 32 - (x + 1) = 4294967295 - x by omega] at this
  rw [this, Nat.testBit_xor, show (4294967295 : Nat) = 2 ^ 32 - 1 by decide, Nat.testBit_two_pow_sub_one]
  by_cases hi : i < 32
  · simp [hi]
  · have : x.testBit i = false := Nat.testBit_lt_two_pow (Nat.lt_of_lt_of_le h (Nat.pow_le_pow_right (n := 2) (by decide) (show 32 ≤ i by omega)))
    simp [hi, this]

/-- The sum of a text that goes on. -/
def more (s : Nat) (l : List Nat) : Nat := 4294967295 ^^^ run (4294967295 ^^^ s) l

theorem more_nil (s : Nat) : more s [] = s := by
  unfold more; rw [run_nil, ← Nat.xor_assoc, Nat.xor_self, Nat.zero_xor]

theorem more_append (s : Nat) (a b : List Nat) : more s (a ++ b) = more (more s a) b := by
  unfold more
  rw [run_append, ← Nat.xor_assoc 4294967295 4294967295, Nat.xor_self, Nat.zero_xor]

theorem more_lt {s : Nat} {l : List Nat} (hs : s < 4294967296) (hl : ∀ b ∈ l, b < 256) : more s l < 4294967296 :=
  xor_lt (by omega) (run_lt (xor_lt (by omega) hs) hl)

/-- A text that goes on, by the sum of what comes behind. -/
theorem more_join (s : Nat) (b : List Nat) : more s b = stps (8 * b.length) s ^^^ more 0 b := by
  unfold more
  rw [run_xor, Nat.xor_zero, ← Nat.xor_assoc, Nat.xor_comm]

/-- Noughts. -/
theorem val_noughts (n : Nat) : val (List.replicate n 0) = 0 := by
  induction n with
  | zero => rfl
  | succ n ih => rw [List.replicate_succ]; show 0 ^^^ 256 * val _ = 0; rw [ih]; rfl

theorem more_noughts (n : Nat) : more 0 (List.replicate n 0) = 4294967295 ^^^ stps (8 * n) 4294967295 := by
  unfold more
  rw [run_eq, val_noughts, List.length_replicate]
  rfl

/-- A number's four bytes. -/
def bytes4 (s : Nat) : List Nat := [s % 256, s / 256 % 256, s / 65536 % 256, s / 16777216 % 256]

theorem val_bytes4 {s : Nat} (h : s < 4294967296) : val (bytes4 s) = s := by
  have a (x : Nat) : x % 256 ^^^ 256 * (x / 256) = x := by
    have := high_low 8 x
    rw [Nat.xor_comm]
    exact this
  show s % 256 ^^^ 256 * (s / 256 % 256 ^^^ 256 * (s / 65536 % 256 ^^^ 256 * (s / 16777216 % 256 ^^^ 256 * 0))) = s
  rw [Nat.mul_zero, Nat.xor_zero, show s / 16777216 % 256 = s / 65536 / 256 by omega, a, show s / 65536 = s / 256 / 256 by omega, a, a]

theorem more_bytes4 {s : Nat} (h : s < 4294967296) : more s (bytes4 s) = 0x48674bc7 := by
  unfold more
  rw [run_eq, val_bytes4 h, Nat.xor_assoc, Nat.xor_self, Nat.xor_zero]
  show 4294967295 ^^^ stps 32 4294967295 = 0x48674bc7
  decide +kernel

/-! Linear maps. -/

/-- What becomes of a number, out of what becomes of its lowest n bits. -/
def moved (m : Nat → Nat) (x : Nat) : Nat → Nat
  | 0 => 0
  | n + 1 => moved m x n ^^^ (if x / 2 ^ n % 2 = 1 then m n else 0)

theorem moved_succ (m : Nat → Nat) (x n : Nat) : moved m x (n + 1) = moved m x n ^^^ (if x / 2 ^ n % 2 = 1 then m n else 0) := rfl

theorem moved_lt {m : Nat → Nat} {x n : Nat} (h : ∀ i, i < n → m i < 4294967296) : moved m x n < 4294967296 := by
  induction n with
  | zero => rw [moved]; omega
  | succ n ih =>
    rw [moved_succ]
    refine xor_lt (ih fun i hi => h i (by omega)) ?_
    split
    · exact h n (by omega)
    · omega

def Lin (f : Nat → Nat) : Prop := ∀ a b, f (a ^^^ b) = f a ^^^ f b

theorem Lin.zero {f : Nat → Nat} (h : Lin f) : f 0 = 0 := by
  have := h 0 0
  rw [Nat.xor_self, Nat.xor_self] at this
  exact this

theorem lin_stps (n : Nat) : Lin (stps n) := stps_xor n

theorem mod_succ_pow (x n : Nat) : x % 2 ^ (n + 1) = x % 2 ^ n ^^^ (if x / 2 ^ n % 2 = 1 then 2 ^ n else 0) := by
  have e := high_low n (x % 2 ^ (n + 1))
  rw [Nat.mod_mod_of_dvd x (Nat.pow_dvd_pow 2 (Nat.le_succ n))] at e
  have f : x % 2 ^ (n + 1) / 2 ^ n = x / 2 ^ n % 2 := by
    rw [Nat.pow_succ, Nat.mod_mul_right_div_self]
  rw [f] at e
  rw [← e, Nat.xor_comm]
  congr 1
  rcases Nat.mod_two_eq_zero_or_one (x / 2 ^ n) with h | h <;> rw [h] <;> simp

theorem moved_lin {f : Nat → Nat} (hf : Lin f) {m : Nat → Nat} {n : Nat} (hm : ∀ i, i < n → m i = f (2 ^ i)) (x : Nat) : moved m x n = f (x % 2 ^ n) := by
  induction n with
  | zero => show 0 = f (x % 1); rw [Nat.mod_one, hf.zero]
  | succ n ih =>
    show moved m x n ^^^ _ = _
    rw [ih (fun i hi => hm i (by omega)), mod_succ_pow, hf, hm n (by omega)]
    congr 1
    split
    · rfl
    · exact hf.zero.symm

theorem moved_all {f : Nat → Nat} (hf : Lin f) {m : Nat → Nat} (hm : ∀ i, i < 32 → m i = f (2 ^ i)) {x : Nat} (hx : x < 4294967296) : moved m x 32 = f x := by
  rw [moved_lin hf hm, Nat.mod_eq_of_lt hx]

/-- Two linear maps that do the same to each bit. -/
theorem lin_eq {f g : Nat → Nat} (hf : Lin f) (hg : Lin g) (h : ∀ i, i < 32 → f (2 ^ i) = g (2 ^ i)) {x : Nat} (hx : x < 4294967296) : f x = g x := by
  rw [← moved_all hf (m := fun i => f (2 ^ i)) (fun _ _ => rfl) hx, moved_all hg (m := fun i => f (2 ^ i)) h hx]

/-- The product of the document's answer. -/
def tim : Nat → Nat → Nat → Nat
  | 0, _, _ => 0
  | n + 1, a, b => (if b.testBit 31 then a else 0) ^^^ tim n (stp a) (2 * (b % 2147483648))

theorem tim_lina (n b : Nat) : Lin (fun a => tim n a b) := by
  intro x y
  show tim n (x ^^^ y) b = tim n x b ^^^ tim n y b
  induction n generalizing b x y with
  | zero => simp only [tim, Nat.xor_self]
  | succ n ih =>
    simp only [tim]
    rw [stp_xor, ih]
    cases b.testBit 31 <;> simp only [if_true, if_false, Bool.false_eq_true]
    · simp only [Nat.zero_xor]
    · rw [Nat.xor_assoc, Nat.xor_assoc, ← Nat.xor_assoc y, Nat.xor_comm y, Nat.xor_assoc]

theorem two_xor (a b : Nat) : 2 * (a ^^^ b) = 2 * a ^^^ 2 * b := by
  have := Nat.shiftLeft_xor_distrib (a := a) (b := b) (i := 1)
  rw [Nat.shiftLeft_eq, Nat.shiftLeft_eq, Nat.shiftLeft_eq, Nat.pow_one, Nat.mul_comm _ 2, Nat.mul_comm _ 2, Nat.mul_comm _ 2] at this
  exact this

theorem tim_linb (n a : Nat) : Lin (fun b => tim n a b) := by
  intro x y
  show tim n a (x ^^^ y) = tim n a x ^^^ tim n a y
  induction n generalizing a x y with
  | zero => simp only [tim, Nat.xor_self]
  | succ n ih =>
    simp only [tim]
    rw [show (2147483648 : Nat) = 2 ^ 31 by decide, Nat.xor_mod_two_pow, two_xor, ih, Nat.testBit_xor]
    rw [← Nat.xor_assoc, ← Nat.xor_assoc]
    cases x.testBit 31 <;> cases y.testBit 31 <;> simp only [if_true, if_false, Bool.false_eq_true, Bool.xor_false, Bool.xor_true, Bool.not_true, Bool.not_false, Nat.zero_xor, Nat.xor_zero]
    · rw [Nat.xor_comm _ a]
    · rw [Nat.xor_assoc a, Nat.xor_comm _ a, ← Nat.xor_assoc a a, Nat.xor_self, Nat.zero_xor]

theorem tim_basis : ∀ i : Fin 32, ∀ j : Fin 32, tim 32 (2 ^ i.1) (stp (2 ^ j.1)) = stp (tim 32 (2 ^ i.1) (2 ^ j.1)) := by decide +kernel

theorem lin_comp {f g : Nat → Nat} (hf : Lin f) (hg : Lin g) : Lin (fun x => f (g x)) := by
  intro a b
  show f (g (a ^^^ b)) = _
  rw [hg, hf]

theorem tim_stp {a b : Nat} (ha : a < 4294967296) (hb : b < 4294967296) : tim 32 a (stp b) = stp (tim 32 a b) :=
  lin_eq (f := fun b => tim 32 a (stp b)) (g := fun b => stp (tim 32 a b)) (lin_comp (tim_linb 32 a) stp_xor) (lin_comp stp_xor (tim_linb 32 a))
    (fun j hj => lin_eq (f := fun a => tim 32 a (stp (2 ^ j))) (g := fun a => stp (tim 32 a (2 ^ j))) (tim_lina 32 _) (lin_comp stp_xor (tim_lina 32 _)) (fun i hi => tim_basis ⟨i, hi⟩ ⟨j, hj⟩) ha) hb

theorem tim_one {a : Nat} (ha : a < 4294967296) : tim 32 a 2147483648 = a :=
  lin_eq (f := fun a => tim 32 a 2147483648) (g := fun a => a) (tim_lina 32 _) (fun _ _ => rfl)
    (fun i hi => (show ∀ i : Fin 32, tim 32 (2 ^ i.1) 2147483648 = 2 ^ i.1 by decide +kernel) ⟨i, hi⟩) ha

theorem tim_power {a : Nat} (ha : a < 4294967296) (n : Nat) : tim 32 a (stps n 2147483648) = stps n a := by
  induction n with
  | zero => exact tim_one ha
  | succ n ih => rw [stps_last, tim_stp ha (stps_lt (by omega)), ih, stps_last]

theorem tim_lt {n a b : Nat} (ha : a < 4294967296) : tim n a b < 4294967296 := by
  induction n generalizing a b with
  | zero => rw [tim]; omega
  | succ n ih =>
    rw [tim]
    refine xor_lt ?_ (ih (stp_lt ha))
    split
    · exact ha
    · omega

/-! Bits in which texts differ. -/

/-- A run of at most 32 bits is told. -/
theorem burst_told {d m n : Nat} (hd : d ≠ 0) (hm : m ≤ n) (hlow : d % 2 ^ m = 0) (hhigh : d < 2 ^ (m + 32)) : stps n d ≠ 0 := by
  intro e
  have h1 : d = 2 ^ m * (d / 2 ^ m) := by
    have := Nat.div_add_mod d (2 ^ m)
    omega
  have h2 : stps m d = d / 2 ^ m := by
    conv => lhs; rw [h1]
    exact stps_high m _
  rw [show n = m + (n - m) by omega, stps_add, h2] at e
  have h3 : d / 2 ^ m < 4294967296 := by
    rw [Nat.div_lt_iff_lt_mul (Nat.two_pow_pos m), Nat.mul_comm]
    rw [Nat.pow_add] at hhigh
    exact hhigh
  have := stps_inj h3 e
  rw [this] at h1
  exact hd (by simpa using h1)

theorem run_differs {x : Nat} {a b : List Nat} (hl : a.length = b.length) (h : stps (8 * a.length) (val a ^^^ val b) ≠ 0) : run x a ≠ run x b := by
  intro e
  rw [run_eq, run_eq, ← hl, stps_xor, stps_xor _ x] at e
  apply h
  rw [stps_xor]
  generalize stps (8 * a.length) x = p at e
  generalize stps (8 * a.length) (val a) = q at e ⊢
  generalize stps (8 * a.length) (val b) = r at e ⊢
  have : p ^^^ (p ^^^ q) = p ^^^ (p ^^^ r) := by rw [e]
  rw [← Nat.xor_assoc, ← Nat.xor_assoc, Nat.xor_self, Nat.zero_xor, Nat.zero_xor] at this
  rw [this, Nat.xor_self]

theorem more_differs {s : Nat} {a b : List Nat} (hl : a.length = b.length) (h : stps (8 * a.length) (val a ^^^ val b) ≠ 0) : more s a ≠ more s b := by
  intro e
  unfold more at e
  apply run_differs (x := 4294967295 ^^^ s) hl h
  generalize run (4294967295 ^^^ s) a = p at e ⊢
  generalize run (4294967295 ^^^ s) b = q at e ⊢
  have : 4294967295 ^^^ (4294967295 ^^^ p) = 4294967295 ^^^ (4294967295 ^^^ q) := by rw [e]
  rwa [← Nat.xor_assoc, ← Nat.xor_assoc, Nat.xor_self, Nat.zero_xor, Nat.zero_xor] at this

end Go.Proofs.YtdcpmpbfnfjncaaGreatDoor.Crcx
