/- Plain mathematics: the length of a frame's body, reading a frame. -/
import Derived.Test.YtfeifobljgmkkaaDoorFRd
import Derived.Test.YtfeifobljgmkkaaDoorFPut
namespace Go.Proofs.YtfeifobljgmkkaaDoor
open Go.RowKit Crcx

theorem scanF_form : ∀ (l : List Int) (i acc x n : Nat), i ≤ 9 → (∀ c ∈ l, 0 ≤ c ∧ c ≤ 255) → scanF i acc l = (x, n, 0) → i < n ∧ ∃ y, x = acc + y * 128 ^ i ∧ numb y = l.take (n - i) ∧ (0 < i → 0 < y)
  | [], i, acc, x, n, _, _, h => by simp [scanF] at h
  | c :: r, i, acc, x, n, hi, hc, h => by
    have hc0 := hc c (by simp)
    rw [scanF] at h
    split at h
    · rename_i h9
      subst h9
      split at h
      · rename_i h1
        subst h1
        simp only [Prod.mk.injEq] at h
        obtain ⟨rfl, rfl, _⟩ := h
        refine ⟨by omega, 1, by rw [show (128 : Nat) ^ 9 = 9223372036854775808 by decide, Nat.one_mul], ?_, fun _ => by omega⟩
        rw [numb_lo (by omega)]; simp
      · simp at h
    · rename_i h9
      split at h
      · rename_i h128
        obtain ⟨hn, y, hx, hy, hp⟩ := scanF_form r (i + 1) _ x n (by omega) (fun d hd => hc d (by simp [hd])) h
        have hy0 := hp (by omega)
        refine ⟨by omega, (c.toNat - 128) + 128 * y, ?_, ?_, fun _ => by omega⟩
        · rw [hx, Nat.pow_succ, Nat.add_mul, Nat.add_assoc]
          congr 2
          rw [Nat.mul_comm 128 y, Nat.mul_assoc, Nat.mul_comm 128 (128 ^ i)]
        · rw [numb_hi (by omega)]
          have e1 : (c.toNat - 128 + 128 * y) / 128 = y := by omega
          have e2 : (((c.toNat - 128 + 128 * y) % 128 + 128 : Nat) : Int) = c := by omega
          rw [e1, e2, hy, show n - i = (n - (i + 1)) + 1 by omega, List.take_succ_cons]
      · rename_i h128
        split at h
        · simp at h
        · rename_i hz
          simp only [Prod.mk.injEq] at h
          obtain ⟨rfl, rfl, _⟩ := h
          refine ⟨by omega, c.toNat, rfl, ?_, fun h0 => by omega⟩
          rw [numb_lo (by omega), show i + 1 - i = 1 by omega]
          simp
          omega

theorem scan_form {l : List Int} {x n : Nat} (h8 : In8 l) (h : scan l = (x, n, 0)) : numb x = l.take n := by
  obtain ⟨_, y, hx, hy, _⟩ := scanF_form l 0 0 x n (by omega) h8 h
  have : x = y := by rw [hx]; omega
  rw [this, hy]; rfl

theorem scanF_numb (y : Nat) : ∀ (i acc : Nat) (r : List Int), i ≤ 9 → acc + y * 128 ^ i < 18446744073709551616 → (0 < i → 0 < y) → scanF i acc (numb y ++ r) = (acc + y * 128 ^ i, i + (numb y).length, 0) := by
  induction y using Nat.strongRecOn with
  | ind y ih =>
    intro i acc r hi hb hp
    have p9 : (128 : Nat) ^ 9 = 9223372036854775808 := by decide
    by_cases h : y < 128
    · rw [numb_lo h]
      show scanF i acc ((y : Int) :: r) = _
      by_cases h9 : i = 9
      · subst h9
        rw [p9] at hb
        have : y = 1 := by have := hp (by omega); omega
        subst this
        rw [scanF, if_pos rfl, if_pos (by rfl), p9]
        simp
      · have hz : ¬ ((y : Int) = 0 ∧ 0 < i) := fun e => by have := hp e.2; omega
        rw [scanF, if_neg h9, if_neg (by omega), if_neg hz]
        simp
    · have h9 : ¬ i = 9 := by
        intro e
        subst e
        rw [p9] at hb
        omega
      rw [numb_hi (by omega)]
      show scanF i acc (((y % 128 + 128 : Nat) : Int) :: (numb (y / 128) ++ r)) = _
      rw [scanF, if_neg h9, if_pos (by omega)]
      have e1 : (((y % 128 + 128 : Nat) : Int)).toNat - 128 = y % 128 := by omega
      have e2 : acc + y % 128 * 128 ^ i + y / 128 * 128 ^ (i + 1) = acc + y * 128 ^ i := by
        rw [Nat.pow_succ, Nat.mul_comm (128 ^ i) 128, ← Nat.mul_assoc, Nat.add_assoc, ← Nat.add_mul, show y % 128 + y / 128 * 128 = y by omega]
      rw [e1, ih (y / 128) (by omega) (i + 1) _ r (by omega) (by rw [e2]; exact hb) (fun _ => by omega), e2]
      rw [List.length_cons, show i + 1 + (numb (y / 128)).length = i + ((numb (y / 128)).length + 1) by omega]

theorem scan_numb {x : Nat} (h : x < 18446744073709551616) (r : List Int) : scan (numb x ++ r) = (x, (numb x).length, 0) := by
  have := scanF_numb x 0 0 r (by omega) (by simpa using h) (fun h => by omega)
  simpa [scan] using this

/-- The length with which bytes begin; an error. -/
def lenF (r : List Int) : Nat × Nat :=
  if (scan (r.take 5)).2.2 = 0 ∧ (scan (r.take 5)).1 ≤ 268435456 then ((scan (r.take 5)).1, 0)
  else if (scan (r.take 5)).2.2 = 110 ∧ (scan (r.take 5 ++ [1])).1 ≤ 268435456 then (0, 130) else (0, 131)

/-- The sum's number that four bytes tell. -/
def sumOf (l : List Int) : Nat := word (l.getD 0 0).toNat (l.getD 1 0).toNat (l.getD 2 0).toNat (l.getD 3 0).toNat

/-- What reading the first frame tells. -/
structure Got where
  err : Nat
  tag : Int
  body : List Int
  size : Nat

/-- Reading the first frame. -/
def readF (b : List Int) : Got :=
  if b = [] then ⟨130, 0, [], 0⟩
  else if (lenF (b.drop 1)).2 ≠ 0 then ⟨(lenF (b.drop 1)).2, 0, [], 0⟩
  else if b.length < fsize (lenF (b.drop 1)).1 then ⟨130, 0, [], 0⟩
  else if sumOf ((b.drop (fsize (lenF (b.drop 1)).1 - 4)).take 4) ≠ more 0 (nats (b.take (fsize (lenF (b.drop 1)).1 - 4))) then ⟨132, 0, [], 0⟩
  else ⟨0, b.getD 0 0, (b.take (fsize (lenF (b.drop 1)).1 - 4)).drop (fsize (lenF (b.drop 1)).1 - 4 - (lenF (b.drop 1)).1), fsize (lenF (b.drop 1)).1⟩

theorem lenF_ok {r : List Int} {n : Nat} (h8 : In8 r) (h : lenF r = (n, 0)) : n ≤ 268435456 ∧ r.take (numb n).length = numb n := by
  unfold lenF at h
  split at h
  · rename_i hc
    injection h with h1 _
    subst h1
    refine ⟨hc.2, ?_⟩
    have hs : scan (r.take 5) = ((scan (r.take 5)).1, (scan (r.take 5)).2.1, 0) := by rw [← hc.1]
    have hf := scan_form (fun x hx => h8 x (List.mem_of_mem_take hx)) hs
    have hlen : (numb (scan (r.take 5)).1).length ≤ (scan (r.take 5)).2.1 := by rw [hf]; simp; omega
    have h5 := numb5 hc.2
    have e2 := congrArg List.length hf
    rw [List.take_take] at hf
    have : (numb (scan (r.take 5)).1).length = min (scan (r.take 5)).2.1 (r.take 5).length := by rw [e2, List.length_take]
    generalize (scan (r.take 5)).1 = x at *
    generalize (scan (r.take 5)).2.1 = m at *
    rw [hf]
    apply List.ext_getElem
    · simp
    · intro i h1 h2
      simp
  · split at h <;> (injection h with _ h2; cases h2)

theorem lenF_numb {n : Nat} (h : n ≤ 268435456) (r : List Int) : lenF (numb n ++ r) = (n, 0) := by
  have h5 := numb5 h
  have e : (numb n ++ r).take 5 = numb n ++ r.take (5 - (numb n).length) := by rw [List.take_append, List.take_of_length_le h5]
  unfold lenF
  rw [e, scan_numb (by omega)]
  simp [h]

theorem sum4_of {l : List Int} (h8 : In8 l) (h4 : l.length = 4) : sum4 (sumOf l) = l ∧ sumOf l < 4294967296 := by
  match l, h4 with
  | [a, b, c, d], _ =>
    have ha := h8 a (by simp)
    have hb := h8 b (by simp)
    have hc := h8 c (by simp)
    have hd := h8 d (by simp)
    obtain ⟨a, rfl⟩ := Int.eq_ofNat_of_zero_le ha.1
    obtain ⟨b, rfl⟩ := Int.eq_ofNat_of_zero_le hb.1
    obtain ⟨c, rfl⟩ := Int.eq_ofNat_of_zero_le hc.1
    obtain ⟨d, rfl⟩ := Int.eq_ofNat_of_zero_le hd.1
    have e : sumOf [(a : Int), b, c, d] = a + 256 * b + 65536 * c + 16777216 * d := rfl
    rw [e]
    refine ⟨?_, by omega⟩
    unfold sum4
    rw [show (a + 256 * b + 65536 * c + 16777216 * d) % 256 = a by omega, show (a + 256 * b + 65536 * c + 16777216 * d) / 256 % 256 = b by omega, show (a + 256 * b + 65536 * c + 16777216 * d) / 65536 % 256 = c by omega, show (a + 256 * b + 65536 * c + 16777216 * d) / 16777216 % 256 = d by omega]

theorem sumOf_sum4 {s : Nat} (h : s < 4294967296) : sumOf (sum4 s) = s := by
  have e : sumOf (sum4 s) = s % 256 + 256 * (s / 256 % 256) + 65536 * (s / 65536 % 256) + 16777216 * (s / 16777216 % 256) := rfl
  rw [e]; omega

theorem in8_sum4 (s : Nat) : In8 (sum4 s) := fun x hx => by
  unfold sum4 at hx; simp only [List.mem_cons, List.not_mem_nil, or_false] at hx
  omega

theorem in8_summed {tag : Int} {body : List Int} (ht : 0 ≤ tag ∧ tag ≤ 255) (h8 : In8 body) : In8 (summed tag body) := in8_append (in8_append (in8_one ht) (in8_numb _)) h8

theorem in8_frm {tag : Int} {body : List Int} (ht : 0 ≤ tag ∧ tag ≤ 255) (h8 : In8 body) : In8 (frm tag body) := in8_append (in8_summed ht h8) (in8_sum4 _)

theorem summed_lt {tag : Int} {body : List Int} (ht : 0 ≤ tag ∧ tag ≤ 255) (h8 : In8 body) : more 0 (nats (summed tag body)) < 4294967296 := more_lt (by omega) (nats_lt (in8_summed ht h8))

theorem summed_len (tag : Int) (body : List Int) : (summed tag body).length = fsize body.length - 4 := by unfold summed fsize; simp; omega

theorem frm_drop1 (tag : Int) (body r : List Int) : (frm tag body ++ r).drop 1 = numb body.length ++ (body ++ (sum4 (more 0 (nats (summed tag body))) ++ r)) := by
  unfold frm summed; simp

theorem readF_frm {tag : Int} {body : List Int} (ht : 0 ≤ tag ∧ tag ≤ 255) (h8 : In8 body) (hn : body.length ≤ 268435456) (r : List Int) : readF (frm tag body ++ r) = ⟨0, tag, body, fsize body.length⟩ := by
  have e1 : lenF ((frm tag body ++ r).drop 1) = (body.length, 0) := by rw [frm_drop1, lenF_numb hn]
  have hl : (frm tag body ++ r).length = fsize body.length + r.length := by rw [List.length_append, frm_len]
  have hsl := summed_len tag body
  have e2 : (frm tag body ++ r).take (fsize body.length - 4) = summed tag body := by
    rw [show frm tag body ++ r = summed tag body ++ (sum4 (more 0 (nats (summed tag body))) ++ r) by unfold frm; simp, ← hsl, List.take_append_of_le_length (Nat.le_refl _), List.take_length]
  have e3 : ((frm tag body ++ r).drop (fsize body.length - 4)).take 4 = sum4 (more 0 (nats (summed tag body))) := by
    rw [show frm tag body ++ r = summed tag body ++ (sum4 (more 0 (nats (summed tag body))) ++ r) by unfold frm; simp, ← hsl, List.drop_append_of_le_length (Nat.le_refl _), List.drop_length, List.nil_append]
    exact List.take_append_of_le_length (by rw [sum4_len]; omega)
  have e4 : (summed tag body).drop (fsize body.length - 4 - body.length) = body := by
    have : fsize body.length - 4 - body.length = (tag :: numb body.length).length := by unfold fsize; simp; omega
    rw [this]; unfold summed
    rw [List.drop_append_of_le_length (Nat.le_refl _), List.drop_length, List.nil_append]
  have e5 : (frm tag body ++ r).getD 0 0 = tag := by unfold frm summed; simp
  have h1 : frm tag body ++ r ≠ [] := fun e => by have := congrArg List.length e; rw [hl] at this; have h6 := fsize_lt body.length; rw [List.length_nil] at this; omega
  unfold readF
  rw [if_neg h1, e1, if_neg (by simp), if_neg (by rw [hl]; show ¬ _ < fsize body.length; omega), e2, e3, if_neg (by rw [sumOf_sum4 (summed_lt ht h8)]; simp), e4, e5]

theorem readF_ok {b : List Int} (h8 : In8 b) (h : (readF b).err = 0) : b.take (readF b).size = frm (readF b).tag (readF b).body ∧ (readF b).size = fsize (readF b).body.length ∧ (readF b).size ≤ b.length ∧ (readF b).body.length ≤ 268435456 ∧ 0 ≤ (readF b).tag ∧ (readF b).tag ≤ 255 ∧ In8 (readF b).body := by
  match b, h8, h with
  | [], _, h => simp [readF] at h
  | c :: r, h8, h =>
    have hc := h8 c (by simp)
    have h8r : In8 r := fun x hx => h8 x (by simp [hx])
    unfold readF at h ⊢
    rw [if_neg (by simp)] at h ⊢
    simp only [List.drop_succ_cons, List.drop_zero] at h ⊢
    by_cases he : (lenF r).2 ≠ 0
    · rw [if_pos he] at h; exact absurd h he
    · rw [if_neg he] at h ⊢
      obtain ⟨hn, hk⟩ := lenF_ok (n := (lenF r).1) h8r (by rw [← Decidable.not_not.1 he])
      generalize (lenF r).1 = n at *
      by_cases hl : (c :: r).length < fsize n
      · rw [if_pos hl] at h; simp at h
      · rw [if_neg hl] at h ⊢
        have hlr : r.length + 1 = (c :: r).length := rfl
        have e1 : (c :: r).take (fsize n - 4) = summed c ((r.drop (numb n).length).take n) ∧ ((r.drop (numb n).length).take n).length = n := by
          have hfs : fsize n - 4 = (numb n).length + n + 1 := by unfold fsize; omega
          have hln : ((r.drop (numb n).length).take n).length = n := by
            simp; unfold fsize at hl; simp only [List.length_cons] at hl; omega
          refine ⟨?_, hln⟩
          rw [hfs, List.take_succ_cons]
          unfold summed
          rw [hln, List.cons_append, List.take_add, hk]
        obtain ⟨e1, hln⟩ := e1
        have e2 : ((c :: r).take (fsize n - 4)).drop (fsize n - 4 - n) = (r.drop (numb n).length).take n := by
          rw [e1]
          have : fsize n - 4 - n = (c :: numb ((r.drop (numb n).length).take n).length).length := by rw [hln]; unfold fsize; simp; omega
          rw [this]; unfold summed
          rw [List.drop_append_of_le_length (Nat.le_refl _), List.drop_length, List.nil_append]
        have h8d : In8 (((c :: r).drop (fsize n - 4)).take 4) := fun x hx => h8 x (List.mem_of_mem_drop (List.mem_of_mem_take hx))
        have hd4 : (((c :: r).drop (fsize n - 4)).take 4).length = 4 := by
          have := fsize_lt n
          rw [List.length_take, List.length_drop]; omega
        obtain ⟨e3, hlt⟩ := sum4_of h8d hd4
        by_cases hsum : sumOf (((c :: r).drop (fsize n - 4)).take 4) ≠ more 0 (nats ((c :: r).take (fsize n - 4)))
        · rw [if_pos hsum] at h; simp at h
        · rw [if_neg hsum]
          have hsum := Decidable.not_not.1 hsum
          simp only
          rw [e2, hln]
          refine ⟨?_, rfl, by omega, hn, by simp; exact hc.1, by simp; exact hc.2, fun x hx => h8r x (List.mem_of_mem_drop (List.mem_of_mem_take hx))⟩
          have hsz : fsize n = fsize n - 4 + 4 := by have := fsize_lt n; omega
          rw [hsz, List.take_add, ← e3, hsum, e1]
          simp [frm]

end Go.Proofs.YtfeifobljgmkkaaDoor
