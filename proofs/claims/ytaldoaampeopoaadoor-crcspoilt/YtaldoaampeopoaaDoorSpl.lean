/- Bits turned in a text. -/
import Derived.Test.YtaldoaampeopoaaDoorBrs
import Derived.Test.YtaldoaampeopoaaDoorLend
namespace Go.Proofs.YtaldoaampeopoaaDoor
open Go.RowKit Crcx

theorem Row.set {w : World} {e : TypeId} {k : IntKind} {g n cap q : Nat} {ys : List Int} (h : Row w e k (.slice (some ⟨g, 0, none⟩) n cap) ys) (x : Int) :
    Row (w.setCell ⟨g, q, none⟩ (.int k x)) e k (.slice (some ⟨g, 0, none⟩) n cap) (ys.set q x) := by
  have hn := h.len
  rcases h.form with ⟨hv, _⟩ | ⟨g', cap', cur, hv, hb, hc, hm, hs, ht⟩
  · cases hv
  · injection hv with h1 h2 h3
    injection h1 with h1
    injection h1 with h1 _ _
    subst h1 h3
    rw [hn, show ys.length = (ys.set q x).length by simp]
    refine Row.mk (heap_setCell_row hb _) (by simpa using hc) hm (by simpa using hs) ?_
    rw [Array.toList_setIfInBounds, List.length_set, List.take_set, ht, List.map_set]

theorem Row.frozen {w : World} {e : TypeId} {k : IntKind} {g n cap : Nat} {ys : List Int} (h : Row w e k (.slice (some ⟨g, 0, none⟩) n cap) ys) (i : Nat) : w.frozen? ⟨g, i, none⟩ = false := by
  rcases h.form with ⟨hv, _⟩ | ⟨g', cap', cur, hv, hb, _⟩
  · cases hv
  · injection hv with h1 h2 h3
    injection h1 with h1
    injection h1 with h1 _ _
    subst h1
    simp [World.frozen?, hb]

theorem byt_set {ys : List Int} {q : Nat} (hq : q < ys.length) (v i : Nat) : byt (ys.set q (v : Int)) i = if i = q then v else byt ys i := by
  unfold byt
  rw [List.getD_eq_getElem?_getD, List.getD_eq_getElem?_getD, List.getElem?_set]
  by_cases h : i = q
  · subst h; simp [hq]
  · have h' : ¬ q = i := fun e => h e.symm
    simp [h, h']

/-- One bit turned: all others stay. -/
theorem bit_set {ys : List Int} {n : Nat} (hn : n / 8 < ys.length) (j : Nat) (hj : j ≠ n) : bitOf (ys.set (n / 8) ((byt ys (n / 8) ^^^ 2 ^ (n % 8) : Nat) : Int)) j = bitOf ys j := by
  unfold bitOf
  rw [byt_set hn]
  by_cases h : j / 8 = n / 8
  · rw [if_pos h, h]
    have hk : ¬ n % 8 = j % 8 := by omega
    have e : (byt ys (n / 8) ^^^ 2 ^ (n % 8)).testBit (j % 8) = (byt ys (n / 8)).testBit (j % 8) := by
      rw [Nat.testBit_xor, Nat.testBit_two_pow]
      simp [hk]
    rw [Nat.testBit_eq_decide_div_mod_eq, Nat.testBit_eq_decide_div_mod_eq] at e
    have a := Nat.mod_two_eq_zero_or_one ((byt ys (n / 8) ^^^ 2 ^ (n % 8)) / 2 ^ (j % 8))
    have b := Nat.mod_two_eq_zero_or_one (byt ys (n / 8) / 2 ^ (j % 8))
    rcases a with a | a <;> rcases b with b | b <;> rw [a, b] at e ⊢ <;> simp at e
  · rw [if_neg h]

theorem in8_set {ys : List Int} (h : In8 ys) (q v : Nat) (hv : v < 256) : In8 (ys.set q (v : Int)) := by
  intro x hx
  rcases List.mem_or_eq_of_mem_set hx with h1 | h1
  · exact h x h1
  · subst h1; omega

/-- The bits that differ lie among k from bit b on. -/
structure Spoilt (xs ys : List Int) (b k : Nat) : Prop where
  len : ys.length = xs.length
  in8 : In8 ys
  dif : ∀ j, Dif xs ys j → b ≤ j ∧ j < b + k

theorem Spoilt.refl {xs : List Int} (h : In8 xs) (b : Nat) : Spoilt xs xs b 0 := ⟨rfl, h, fun _ hj => absurd rfl hj⟩

theorem Spoilt.skip {xs ys : List Int} {b k : Nat} (h : Spoilt xs ys b k) : Spoilt xs ys b (k + 1) := ⟨h.len, h.in8, fun j hj => by have := h.dif j hj; omega⟩

theorem Spoilt.turn {xs ys : List Int} {b k : Nat} (h : Spoilt xs ys b k) (hn : (b + k) / 8 < ys.length) : Spoilt xs (ys.set ((b + k) / 8) ((byt ys ((b + k) / 8) ^^^ 2 ^ ((b + k) % 8) : Nat) : Int)) b (k + 1) := by
  refine ⟨by simp [h.len], in8_set h.in8 _ _ ?_, fun j hj => ?_⟩
  · exact Nat.xor_lt_two_pow (n := 8) (byt_lt h.in8 _) (Nat.pow_lt_pow_right (by omega) (by omega))
  · by_cases e : j = b + k
    · omega
    · have := h.dif j (fun e' => hj (by rw [bit_set hn j e]; exact e')); omega

theorem ext_byt {xs ys : List Int} (h8 : In8 xs) (h8' : In8 ys) (hl : ys.length = xs.length) (h : ∀ i, byt xs i = byt ys i) : xs = ys := by
  apply List.ext_getElem hl.symm
  intro i h1 h2
  have := h i
  unfold byt at this
  rw [List.getD_eq_getElem?_getD, List.getD_eq_getElem?_getD, List.getElem?_eq_getElem h1, List.getElem?_eq_getElem h2] at this
  have a := h8 _ (List.getElem_mem h1)
  have b := h8' _ (List.getElem_mem h2)
  simp only [Option.getD_some] at this
  omega

theorem Spoilt.differ {xs ys : List Int} {b : Nat} (h8 : In8 xs) (h : Spoilt xs ys b 32) (hne : xs ≠ ys) : more 0 (nats xs) ≠ more 0 (nats ys) := by
  refine sums_differ h8 h.in8 h.len.symm (m := b) ?_ (fun j hj => (h.dif j hj).1) (fun j hj => (h.dif j hj).2) 0
  apply Classical.byContradiction
  intro hno
  apply hne
  refine ext_byt h8 h.in8 h.len fun i => bit_ext _ _ (byt_lt h8 i) (byt_lt h.in8 i) fun k hk => ?_
  apply Classical.byContradiction
  intro hd
  exact hno ⟨8 * i + k, (dif_byte hk).2 hd⟩

end Go.Proofs.YtaldoaampeopoaaDoor
