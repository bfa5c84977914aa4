/- Bits turned in a frame. -/
import Derived.Test.YtfeifobljgmkkabDoorBrs
import Derived.Test.YtfeifobljgmkkabDoorFHead
namespace Go.Proofs.YtfeifobljgmkkabDoor
open Go.RowKit Crcx

theorem Row.set {w : World} {e : TypeId} {k : IntKind} {g n cap q : Nat} {ys : List Int} (h : Row w e k (.slice (some ⟨g, 0, none⟩) n cap) ys) (x : Int) :
    Row (w.setCell ⟨g, q, none⟩ (.int k x)) e k (.slice (some ⟨g, 0, none⟩) n cap) (ys.set q x) := by
  have hn := h.len
  rcases h.form with ⟨hv, _⟩ | ⟨g', cap', cur, hv, hb, hc, hm, hs, ht⟩
  · cases hv
  · injection hv with h1 h2 h3
    injection h1 with h1
    injection h1 with h1 _ _
    subst h1 h3
    rw [hn, show ys.length = (ys.set q x).length by simp]
    refine Row.mk (heap_setCell_row hb _) (by simpa using hc) hm (by simpa using hs) ?_
    rw [Array.toList_setIfInBounds, List.length_set, List.take_set, ht, List.map_set]

theorem Row.frozen {w : World} {e : TypeId} {k : IntKind} {g n cap : Nat} {ys : List Int} (h : Row w e k (.slice (some ⟨g, 0, none⟩) n cap) ys) (i : Nat) : w.frozen? ⟨g, i, none⟩ = false := by
  rcases h.form with ⟨hv, _⟩ | ⟨g', cap', cur, hv, hb, _⟩
  · cases hv
  · injection hv with h1 h2 h3
    injection h1 with h1
    injection h1 with h1 _ _
    subst h1
    simp [World.frozen?, hb]

theorem byt_set {ys : List Int} {q : Nat} (hq : q < ys.length) (v i : Nat) : byt (ys.set q (v : Int)) i = if i = q then v else byt ys i := by
  unfold byt
  rw [List.getD_eq_getElem?_getD, List.getD_eq_getElem?_getD, List.getElem?_set]
  by_cases h : i = q
  · subst h; simp [hq]
  · have h' : ¬ q = i := fun e => h e.symm
    simp [h, h']

/-- One bit turned: all others stay. -/
theorem bit_set {ys : List Int} {n : Nat} (hn : n / 8 < ys.length) (j : Nat) (hj : j ≠ n) : bitOf (ys.set (n / 8) ((byt ys (n / 8) ^^^ 2 ^ (n % 8) : Nat) : Int)) j = bitOf ys j := by
  unfold bitOf
  rw [byt_set hn]
  by_cases h : j / 8 = n / 8
  · rw [if_pos h, h]
    have hk : ¬ n % 8 = j % 8 := by omega
    have e : (byt ys (n / 8) ^^^ 2 ^ (n % 8)).testBit (j % 8) = (byt ys (n / 8)).testBit (j % 8) := by
      rw [Nat.testBit_xor, Nat.testBit_two_pow]
      simp [hk]
    rw [Nat.testBit_eq_decide_div_mod_eq, Nat.testBit_eq_decide_div_mod_eq] at e
    have a := Nat.mod_two_eq_zero_or_one ((byt ys (n / 8) ^^^ 2 ^ (n % 8)) / 2 ^ (j % 8))
    have b := Nat.mod_two_eq_zero_or_one (byt ys (n / 8) / 2 ^ (j % 8))
    rcases a with a | a <;> rcases b with b | b <;> rw [a, b] at e ⊢ <;> simp at e
  · rw [if_neg h]

theorem in8_set {ys : List Int} (h : In8 ys) (q v : Nat) (hv : v < 256) : In8 (ys.set q (v : Int)) := by
  intro x hx
  rcases List.mem_or_eq_of_mem_set hx with h1 | h1
  · exact h x h1
  · subst h1; omega

/-- The bits that differ lie among k from bit b on. -/
structure Spoilt (xs ys : List Int) (b k : Nat) : Prop where
  len : ys.length = xs.length
  in8 : In8 ys
  dif : ∀ j, Dif xs ys j → b ≤ j ∧ j < b + k

theorem Spoilt.refl {xs : List Int} (h : In8 xs) (b : Nat) : Spoilt xs xs b 0 := ⟨rfl, h, fun _ hj => absurd rfl hj⟩

theorem Spoilt.skip {xs ys : List Int} {b k : Nat} (h : Spoilt xs ys b k) : Spoilt xs ys b (k + 1) := ⟨h.len, h.in8, fun j hj => by have := h.dif j hj; omega⟩

theorem Spoilt.turn {xs ys : List Int} {b k : Nat} (h : Spoilt xs ys b k) (hn : (b + k) / 8 < ys.length) : Spoilt xs (ys.set ((b + k) / 8) ((byt ys ((b + k) / 8) ^^^ 2 ^ ((b + k) % 8) : Nat) : Int)) b (k + 1) := by
  refine ⟨by simp [h.len], in8_set h.in8 _ _ ?_, fun j hj => ?_⟩
  · exact Nat.xor_lt_two_pow (n := 8) (byt_lt h.in8 _) (Nat.pow_lt_pow_right (by omega) (by omega))
  · by_cases e : j = b + k
    · omega
    · have := h.dif j (fun e' => hj (by rw [bit_set hn j e]; exact e')); omega

theorem ext_byt {xs ys : List Int} (h8 : In8 xs) (h8' : In8 ys) (hl : ys.length = xs.length) (h : ∀ i, byt xs i = byt ys i) : xs = ys := by
  apply List.ext_getElem hl.symm
  intro i h1 h2
  have := h i
  unfold byt at this
  rw [List.getD_eq_getElem?_getD, List.getD_eq_getElem?_getD, List.getElem?_eq_getElem h1, List.getElem?_eq_getElem h2] at this
  have a := h8 _ (List.getElem_mem h1)
  have b := h8' _ (List.getElem_mem h2)
  simp only [Option.getD_some] at this
  omega

theorem Spoilt.differ {xs ys : List Int} {b : Nat} (h8 : In8 xs) (h : Spoilt xs ys b 32) (hne : xs ≠ ys) : more 0 (nats xs) ≠ more 0 (nats ys) := by
  refine sums_differ h8 h.in8 h.len.symm (m := b) ?_ (fun j hj => (h.dif j hj).1) (fun j hj => (h.dif j hj).2) 0
  apply Classical.byContradiction
  intro hno
  apply hne
  refine ext_byt h8 h.in8 h.len fun i => bit_ext _ _ (byt_lt h8 i) (byt_lt h.in8 i) fun k hk => ?_
  apply Classical.byContradiction
  intro hd
  exact hno ⟨8 * i + k, (dif_byte hk).2 hd⟩

theorem nats_append (xs ys : List Int) : nats (xs ++ ys) = nats xs ++ nats ys := by unfold nats; rw [List.map_append]

theorem nats_sum4 (s : Nat) : nats (sum4 s) = bytes4 s := rfl

/-- Bytes with their sum behind them. -/
theorem word_more {l : List Int} (h8 : In8 l) {m : Nat} (hm : m + 4 = l.length) (h : sumOf ((l.drop m).take 4) = more 0 (nats (l.take m))) : more 0 (nats l) = 1214729159 := by
  have hd : (l.drop m).take 4 = l.drop m := List.take_of_length_le (by simp; omega)
  rw [hd] at h
  have h4 := sum4_of (l := l.drop m) (fun x hx => h8 x (List.mem_of_mem_drop hx)) (by simp; omega)
  have e : l = l.take m ++ l.drop m := (List.take_append_drop m l).symm
  rw [e, nats_append, more_append, ← h, ← h4.1, nats_sum4, sumOf_sum4 h4.2, more_bytes4 h4.2]

theorem frm_more {tag : Int} {body : List Int} (ht : 0 ≤ tag ∧ tag ≤ 255) (h8 : In8 body) : more 0 (nats (frm tag body)) = 1214729159 := by
  unfold frm
  rw [nats_append, more_append, nats_sum4, more_bytes4 (summed_lt ht h8)]

/-- A frame with other bits within 32, its length being as it was, is refused for its sum. -/
theorem readF_spoilt {tag : Int} {body s : List Int} {b : Nat} (ht : 0 ≤ tag ∧ tag ≤ 255) (h8 : In8 body) (hn : body.length ≤ 268435456) (hs : Spoilt (frm tag body) s b 32) (hne : frm tag body ≠ s) (hk : (s.drop 1).take (numb body.length).length = numb body.length) : readF s = ⟨132, 0, [], 0⟩ := by
  have hl : s.length = fsize body.length := by rw [hs.len, frm_len]
  have h6 := fsize_lt body.length
  have e1 : lenF (s.drop 1) = (body.length, 0) := by
    have : s.drop 1 = numb body.length ++ (s.drop 1).drop (numb body.length).length := by
      conv => lhs; rw [← List.take_append_drop (numb body.length).length (s.drop 1), hk]
    rw [this]; exact lenF_numb hn _
  have h0 : s ≠ [] := fun e => by rw [e] at hl; simp at hl; omega
  have hd := hs.differ (in8_frm ht h8) hne
  rw [frm_more ht h8] at hd
  unfold readF
  rw [if_neg h0, e1, if_neg (by simp), if_neg (by rw [hl]; show ¬ _ < fsize body.length; omega), if_pos]
  intro e
  exact hd (word_more hs.in8 (m := fsize body.length - 4) (by omega) e).symm

/-- Where no bit below 8 k differs, the first k bytes are the same. -/
theorem take_same {xs ys : List Int} (h8 : In8 xs) (h8' : In8 ys) (hl : ys.length = xs.length) {k : Nat} (h : ∀ j, Dif xs ys j → 8 * k ≤ j) : xs.take k = ys.take k := by
  apply List.ext_getElem
  · simp [hl]
  · intro i h1 h2
    rw [List.getElem_take, List.getElem_take]
    have hi : i < k := by simp at h1; omega
    have hix : i < xs.length := by simp at h1; omega
    have hiy : i < ys.length := by omega
    have e : byt xs i = byt ys i := bit_ext _ _ (byt_lt h8 i) (byt_lt h8' i) fun c hc => by
      apply Classical.byContradiction
      intro hd
      have := h _ ((dif_byte hc).2 hd)
      omega
    unfold byt at e
    rw [List.getD_eq_getElem?_getD, List.getD_eq_getElem?_getD, List.getElem?_eq_getElem hix, List.getElem?_eq_getElem hiy] at e
    have a := h8 _ (List.getElem_mem hix)
    have b := h8' _ (List.getElem_mem hiy)
    simp only [Option.getD_some] at e
    omega

/-- Spoilt in the body and the sum. -/
theorem readF_body {tag : Int} {body s : List Int} {b : Nat} (ht : 0 ≤ tag ∧ tag ≤ 255) (h8 : In8 body) (hn : body.length ≤ 268435456) (hs : Spoilt (frm tag body) s b 32) (hb : 8 * (1 + (numb body.length).length) ≤ b) (hne : frm tag body ≠ s) : readF s = ⟨132, 0, [], 0⟩ := by
  refine readF_spoilt ht h8 hn hs hne ?_
  have h := take_same (in8_frm ht h8) hs.in8 hs.len (k := 1 + (numb body.length).length) (fun j hj => by have := (hs.dif j hj).1; omega)
  have e2 : (s.take (1 + (numb body.length).length)).drop 1 = (s.drop 1).take (numb body.length).length := by
    rw [List.drop_take]; congr 1; omega
  rw [← e2, ← h]
  have e3 : ((frm tag body).take (1 + (numb body.length).length)).drop 1 = ((frm tag body).drop 1).take (numb body.length).length := by
    rw [List.drop_take]; congr 1; omega
  rw [e3]
  have := frm_drop1 tag body []
  rw [List.append_nil] at this
  rw [this, List.take_append_of_le_length (Nat.le_refl _), List.take_length]

/-- Spoilt in the tag. -/
theorem readF_tag {tag : Int} {body : List Int} (m : Nat) (hm : m < 256) (hm0 : m ≠ 0) (ht : 0 ≤ tag ∧ tag ≤ 255) (h8 : In8 body) (hn : body.length ≤ 268435456) : readF ((frm tag body).set 0 ((tag.toNat ^^^ m : Nat) : Int)) = ⟨132, 0, [], 0⟩ := by
  have hx : tag.toNat ^^^ m < 256 := Nat.xor_lt_two_pow (n := 8) (by omega) hm
  have hlen : 0 < (frm tag body).length := by have := frm_pos tag body; omega
  have hd1 : ((frm tag body).set 0 ((tag.toNat ^^^ m : Nat) : Int)).drop 1 = (frm tag body).drop 1 := by
    rw [List.drop_set_of_lt (by omega)]
  refine readF_spoilt (b := 0) ht h8 hn ⟨by simp, in8_set (in8_frm ht h8) _ _ hx, fun j hj => ⟨Nat.zero_le _, ?_⟩⟩ ?_ ?_
  · apply Classical.byContradiction
    intro hge
    apply hj
    unfold bitOf
    rw [byt_set hlen, if_neg (by omega)]
  · intro e
    have h0 := congrArg (fun l => l.getD 0 0) e
    have e1 : (frm tag body).getD 0 0 = tag := by unfold frm summed; simp
    have e2 : ((frm tag body).set 0 ((tag.toNat ^^^ m : Nat) : Int)).getD 0 0 = ((tag.toNat ^^^ m : Nat) : Int) := by
      rw [List.getD_eq_getElem?_getD, List.getElem?_set]; simp [hlen]
    rw [e1, e2] at h0
    have h1 : tag.toNat = tag.toNat ^^^ m := by omega
    have h2 : tag.toNat ^^^ tag.toNat = tag.toNat ^^^ (tag.toNat ^^^ m) := by rw [← h1]
    rw [Nat.xor_self, ← Nat.xor_assoc, Nat.xor_self, Nat.zero_xor] at h2
    exact hm0 h2.symm
  · rw [hd1]
    have := frm_drop1 tag body []
    rw [List.append_nil] at this
    rw [this, List.take_append_of_le_length (Nat.le_refl _), List.take_length]

end Go.Proofs.YtfeifobljgmkkabDoor
