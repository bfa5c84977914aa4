/- What the program's routers are to answer: the laws are walked over this, and the program is held against it. The law's known: a small router that the document names. -/
import Derived.Test.YtapnjofplilefaaGreatZG0
import Derived.Test.YtapnjofplilefaaGreatZ1
namespace Go.Proofs.YtapnjofplilefaaGreat
open Go.RowKit

/-- Pk w q G c p L s: the program's router lies at q, in the blocks G; its job is c, it has p workers, its marks are L, the next number is s. -/
structure Rpi (Pk : World → Nat → (Nat → Prop) → Cf → Nat → List Int → Int → Prop) : Prop where
  touch : ∀ {w w' : World} {q : Nat} {G S : Nat → Prop} {c : Cf} {p : Nat} {L : List Int} {s : Int}, Pk w q G c p L s → Touch S w w' → (∀ g, G g → ¬ S g) → Pk w' q G c p L s
  lt : ∀ {w : World} {q : Nat} {G : Nat → Prop} {c : Cf} {p : Nat} {L : List Int} {s : Int}, Pk w q G c p L s → ∀ g, G g → g < w.heap.size
  item_no : ∀ {w : World} {q : Nat} {G : Nat → Prop} {c : Cf} {p g : Nat} {L : List Int} {s : Int} (x : It), Pk w q G c p L s → Sit c p g L → itemZ c x = false → Calls Tryz.prog 14 #[cp q, itv x] w fun e w' => ∃ a k, e = .returned (.tuple #[.slice a 0 k, .int .i64 5]) ∧ encSn.Own 65 w' w.heap.size (.slice a 0 k) [] ∧ Calm w w'
  item_yes : ∀ {w : World} {q : Nat} {G : Nat → Prop} {c : Cf} {p g : Nat} {L : List Int} {s : Int} (x : It), Pk w q G c p L s → Sit c p g L → itemZ c x = true → Calls Tryz.prog 14 #[cp q, itv x] w fun e w' => ∃ a k, e = .returned (.tuple #[.slice a (itemA p g L s x).length k, .int .i64 0]) ∧ encSn.Own 65 w' w.heap.size (.slice a (itemA p g L s x).length k) (itemA p g L s x) ∧ Touch G w w' ∧ ∃ G', Pk w' q G' c p (itemL L x) (nxt s) ∧ ∀ g, G' g → G g ∨ w.heap.size ≤ g
  items : ∀ {w : World} {q : Nat} {G : Nat → Prop} {c : Cf} {p g : Nat} {L : List Int} {s : Int} (M : List It) (mo : Option Addr) (mc : Nat), Pk w q G c p L s → Sit c p g L → encI.Sl w mo mc M → (∀ a, mo = some a → M ≠ [] → ¬ G a.block) → M.length ≤ 10000000 → Calls Tryz.prog 19 #[cp q, .slice mo M.length mc] w fun e w' => ∃ a k, e = .returned (.tuple #[.slice a (goA p g L s (taken c M)).length k, .int .i64 ((taken c M).length : Nat), .int .i64 (itemsE c M : Nat)]) ∧ encSn.Own 65 w' w.heap.size (.slice a (goA p g L s (taken c M)).length k) (goA p g L s (taken c M)) ∧ Touch G w w' ∧ ∃ G', Pk w' q G' c p (goL L (taken c M)) (goS s (taken c M)) ∧ ∀ g, G' g → G g ∨ w.heap.size ≤ g
  worker : ∀ {w : World} {q : Nat} {G : Nat → Prop} {c : Cf} {p g : Nat} {L : List Int} {s : Int} (x : ByteArray), Pk w q G c p L s → Sit c p g L → x.size < 9223372036854775808 → Calls Tryz.prog 21 #[cp q, .string x] w fun e w' => e = .returned (if x.size ≤ 256 then .tuple #[.int .i64 (wk p g (hsh x % g) : Nat), .int .i64 0] else .tuple #[.int .i64 0, .int .i64 5]) ∧ Calm w w'
  marks : ∀ {w : World} {q : Nat} {G : Nat → Prop} {c : Cf} {p : Nat} {L : List Int} {s : Int}, Pk w q G c p L s → Calls Tryz.prog 23 #[cp q] w fun e w' => ∃ a k, e = .returned (.slice a L.length k) ∧ encJ.Own 2 w' w.heap.size (.slice a L.length k) L ∧ Calm w w'
  water : ∀ {w : World} {q : Nat} {G : Nat → Prop} {c : Cf} {p : Nat} {L : List Int} {s : Int}, Pk w q G c p L s → Calls Tryz.prog 15 #[cp q] w fun e w' => e = .returned (.int .i64 (mkN L)) ∧ Calm w w'
  seq : ∀ {w : World} {q : Nat} {G : Nat → Prop} {c : Cf} {p : Nat} {L : List Int} {s : Int}, Pk w q G c p L s → Calls Tryz.prog 16 #[cp q] w fun e w' => e = .returned (.int .i64 s) ∧ Calm w w'
  copy : ∀ {w : World} {q : Nat} {G : Nat → Prop} {c : Cf} {p : Nat} {L : List Int} {s : Int}, Pk w q G c p L s → Calls Tryz.prog 25 #[cp q] w fun e w' => ∃ q', e = .returned (cp q') ∧ Pk w' q' (fun g => w.heap.size ≤ g ∧ g < w'.heap.size) c p L s ∧ Calm w w'
  new_no : ∀ (c : Cf) (wk : Int) (w : World), newE c wk ≠ 0 → Calls Tryz.prog 4 #[cfv c, .int .i64 wk] w fun e w' => e = .returned (.tuple #[.pointer none, .int .i64 (newE c wk : Nat)]) ∧ Calm w w'
  new_yes : ∀ (c : Cf) (p : Nat) (w : World), newE c p = 0 → Calls Tryz.prog 4 #[cfv c, .int .i64 (p : Int)] w fun e w' => ∃ q, e = .returned (.tuple #[cp q, .int .i64 0]) ∧ Pk w' q (fun g => w.heap.size ≤ g ∧ g < w'.heap.size) c p (List.replicate c.so.toNat minT) 0 ∧ Calm w w'
  from_no : ∀ (c : Cf) (wk : Int) (M : List Int) (mo : Option Addr) (mc : Nat) (s : Int) (w : World), encJ.Sl w mo mc M → M.length ≤ 10000000 → fromE c wk M s ≠ 0 → Calls Tryz.prog 10 #[cfv c, .int .i64 wk, .slice mo M.length mc, .int .i64 s] w fun e w' => e = .returned (.tuple #[.pointer none, .int .i64 (fromE c wk M s : Nat)]) ∧ Calm w w'
  from_yes : ∀ (c : Cf) (p : Nat) (M : List Int) (mo : Option Addr) (mc : Nat) (s : Int) (w : World), encJ.Sl w mo mc M → M.length ≤ 10000000 → fromE c p M s = 0 → Calls Tryz.prog 10 #[cfv c, .int .i64 (p : Int), .slice mo M.length mc, .int .i64 s] w fun e w' => ∃ q, e = .returned (.tuple #[cp q, .int .i64 0]) ∧ Pk w' q (fun g => w.heap.size ≤ g ∧ g < w'.heap.size) c p M s ∧ Calm w w'

/-- A router that is not there. -/
structure Rpn (rv : Value) (w0 : World) : Prop where
  item : ∀ (x : It) (w : World), Calm w0 w → Calls Tryz.prog 14 #[rv, itv x] w fun e w' => ∃ a k, e = .returned (.tuple #[.slice a 0 k, .int .i64 1]) ∧ Calm w w'
  items : ∀ (M : List It) (mo : Option Addr) (mc : Nat) (w : World), Calm w0 w → encI.Sl w mo mc M → M.length ≤ 10000000 → Calls Tryz.prog 19 #[rv, .slice mo M.length mc] w fun e w' => ∃ a k, e = .returned (.tuple #[.slice a 0 k, .int .i64 0, .int .i64 1]) ∧ Calm w w'
  worker : ∀ (x : ByteArray) (w : World), Calm w0 w → x.size < 9223372036854775808 → Calls Tryz.prog 21 #[rv, .string x] w fun e w' => e = .returned (.tuple #[.int .i64 0, .int .i64 1]) ∧ Calm w w'
  marks : ∀ w : World, Calm w0 w → Calls Tryz.prog 23 #[rv] w fun e w' => ∃ a k, e = .returned (.slice a 0 k) ∧ Calm w w'
  water : ∀ w : World, Calm w0 w → Calls Tryz.prog 15 #[rv] w fun e w' => e = .returned (.int .i64 0) ∧ Calm w w'
  seq : ∀ w : World, Calm w0 w → Calls Tryz.prog 16 #[rv] w fun e w' => e = .returned (.int .i64 0) ∧ Calm w w'
  copy : ∀ w : World, Calm w0 w → Calls Tryz.prog 25 #[rv] w fun e w' => e = .returned (.pointer none) ∧ Calm w w'

theorem Rpi.calm {Pk : World → Nat → (Nat → Prop) → Cf → Nat → List Int → Int → Prop} (I : Rpi Pk) {w w' : World} {q : Nat} {G : Nat → Prop} {c : Cf} {p : Nat} {L : List Int} {s : Int} (h : Pk w q G c p L s) (ht : Calm w w') : Pk w' q G c p L s := I.touch h ht fun _ _ h => h
/-- A router that New made may be. -/
theorem Sit.new {c : Cf} {wk : Int} (h : newE c wk = 0) : ∃ p g : Nat, wk = (p : Int) ∧ Sit c p g (List.replicate c.so.toNat minT) := by
  rcases newE_cases c wk with ⟨e, -⟩ | ⟨e, -⟩ | ⟨-, h1, h2, h3⟩
  · rw [e] at h; cases h
  · rw [e] at h; cases h
  · have hj : jobP c := of_decide_eq_true h1
    unfold jobP at hj
    exact ⟨wk.toNat, c.gr.toNat, by omega, by omega, ⟨by omega, by omega, by omega, by omega⟩, by rw [List.length_replicate]; omega⟩
theorem Sit.fro {c : Cf} {wk : Int} {M : List Int} {s : Int} (h : fromE c wk M s = 0) : ∃ p g : Nat, wk = (p : Int) ∧ Sit c p g M ∧ newE c wk = 0 := by
  unfold fromE at h
  by_cases hn : newE c wk = 0
  · rw [if_neg (by simp [hn])] at h
    obtain ⟨p, g, e, k⟩ := Sit.new hn
    refine ⟨p, g, e, ⟨k.gr, k.may, ?_⟩, hn⟩
    by_cases hm : (M.length : Int) = c.so
    · exact hm
    · rw [if_pos (.inl (.inl hm))] at h; cases h
  · rw [if_pos hn] at h; exact absurd h hn

/-- A router made behind w. -/
def Kr (Pk : World → Nat → (Nat → Prop) → Cf → Nat → List Int → Int → Prop) (w : World) (q : Nat) (c : Cf) (p : Nat) (L : List Int) (s : Int) (w' : World) : Prop := ∃ G, Pk w' q G c p L s ∧ (∀ g, G g → w.heap.size ≤ g) ∧ Calm w w'
section
variable {Pk : World → Nat → (Nat → Prop) → Cf → Nat → List Int → Int → Prop}

theorem Kr.calm {w w' : World} {q : Nat} {c : Cf} {p : Nat} {L : List Int} {s : Int} (h : Kr Pk w q c p L s w') : Calm w w' := by
  obtain ⟨G, -, -, h⟩ := h
  exact h
theorem Kr.still (I : Rpi Pk) {w w' w2 : World} {q : Nat} {c : Cf} {p : Nat} {L : List Int} {s : Int} (h : Kr Pk w q c p L s w') (ht : Calm w' w2) : Kr Pk w q c p L s w2 := by
  obtain ⟨G, h1, h2, h3⟩ := h
  exact ⟨G, I.calm h1 ht, h2, h3.tr ht⟩
theorem Kr.new (I : Rpi Pk) (c : Cf) (p : Nat) (w : World) (h : newE c p = 0) : Calls Tryz.prog 4 #[cfv c, .int .i64 (p : Int)] w fun e w' => ∃ q, e = .returned (.tuple #[cp q, .int .i64 0]) ∧ Kr Pk w q c p (List.replicate c.so.toNat minT) 0 w' :=
  (I.new_yes c p w h).mono fun _ _ ⟨q, a, b, c⟩ => ⟨q, a, _, b, fun _ hg => hg.1, c⟩
theorem Kr.item (I : Rpi Pk) {w w' : World} {q : Nat} {c : Cf} {p g : Nat} {L : List Int} {s : Int} (h : Kr Pk w q c p L s w') (hS : Sit c p g L) (x : It) (hz : itemZ c x = true) {A : List Sn} {L' : List Int} {s' : Int} (e1 : itemA p g L s x = A) (e2 : itemL L x = L') (e3 : nxt s = s') : Calls Tryz.prog 14 #[cp q, itv x] w' fun e w2 => ∃ a k, e = .returned (.tuple #[.slice a A.length k, .int .i64 0]) ∧ encSn.Own 65 w2 w'.heap.size (.slice a A.length k) A ∧ Kr Pk w q c p L' s' w2 := by
  subst e1 e2 e3
  obtain ⟨G, h1, h2, h3⟩ := h
  exact (I.item_yes x h1 hS hz).mono fun e w2 ⟨a, k, b, o, t, G', d, f⟩ => ⟨a, k, b, o, G', d, fun g hg => (f g hg).elim (h2 g) (fun h => Nat.le_trans h3.size h), h3.trans t fun g hg s => by have := h2 g s; omega⟩
theorem Kr.water (I : Rpi Pk) {w w' : World} {q : Nat} {c : Cf} {p : Nat} {L : List Int} {s : Int} (h : Kr Pk w q c p L s w') {m : Int} (e1 : mkN L = m) : Calls Tryz.prog 15 #[cp q] w' fun e w2 => e = .returned (.int .i64 m) ∧ Kr Pk w q c p L s w2 ∧ Calm w' w2 := by
  subst e1
  obtain ⟨G, h1, h2, h3⟩ := h
  exact (I.water h1).mono fun e w2 ⟨a, b⟩ => ⟨a, ⟨G, I.calm h1 b, h2, h3.tr b⟩, b⟩
theorem Kr.seq (I : Rpi Pk) {w w' : World} {q : Nat} {c : Cf} {p : Nat} {L : List Int} {s : Int} (h : Kr Pk w q c p L s w') : Calls Tryz.prog 16 #[cp q] w' fun e w2 => e = .returned (.int .i64 s) ∧ Kr Pk w q c p L s w2 ∧ Calm w' w2 := by
  obtain ⟨G, h1, h2, h3⟩ := h
  exact (I.seq h1).mono fun e w2 ⟨a, b⟩ => ⟨a, ⟨G, I.calm h1 b, h2, h3.tr b⟩, b⟩
end

end Go.Proofs.YtapnjofplilefaaGreat

namespace Go.Proofs.YtapnjofplilefaaGreat
open Go.RowKit

section
variable {Pk : World → Nat → (Nat → Prop) → Cf → Nat → List Int → Int → Prop}

abbrev smallC : Cf := ⟨4, 2, 1, 10, 0, 0, 0, 0, 0, false⟩
theorem small_any (w : World) : Calls Tryz.prog 13 #[] w fun e w' => e = .returned (cfv smallC) ∧ Calm w w' := by
  have T0 := hide ((Touch.refl (fun _ => False) w).alloc (.cells (cfc smallC) 24))
  have A0 := al_new w (.cells (cfc smallC) 24)
  have HA := hide A0
  clear A0
  go_enter Tryz.func13, Tryz.ntmps13
  go_wp2_with fail
  refine bodyPost_ret (results_cell_row rfl _ _ _ _ _ _ _ rfl HA.out Tryz.underlying24 rfl (by kernel_rfl)) rfl ?_
  exact ⟨rfl, T0.out⟩

theorem small_new : newE smallC 2 = 0 := by decide
theorem small_sit : Sit smallC 2 4 [minT, minT] := ⟨rfl, ⟨by omega, by omega, by omega, by omega⟩, rfl⟩
theorem kn0 : nxt 0 = 1 := by unfold nxt wrap64; decide
theorem kn1 : nxt 1 = 2 := by unfold nxt wrap64; decide
abbrev kx1 : It := ⟨2, ⟨#[]⟩, 7, 0, 0⟩
abbrev kx2 : It := ⟨2, ⟨#[]⟩, 3, 0, 1⟩
theorem kz1 : itemZ smallC kx1 = true := by simp [itemZ, timZ, ByteArray.toList_eq]
theorem kz2 : itemZ smallC kx2 = true := by simp [itemZ, timZ, ByteArray.toList_eq]
theorem kl1 : itemL [minT, minT] kx1 = [7, minT] := by simp [itemL, plM]; decide
theorem kl2 : itemL [7, minT] kx2 = [7, 3] := by simp [itemL, plM]; decide
theorem ka1 : itemA 2 4 [minT, minT] 0 kx1 = [] := by simp [itemA, plM, mkN]; decide
theorem ka2 : itemA 2 4 [7, minT] 1 kx2 = [⟨0, 2, 1, ⟨#[]⟩, 3, 0⟩, ⟨1, 2, 1, ⟨#[]⟩, 3, 0⟩] := by
  have e : mkN [7, minT] ≠ mkN (plM [7, minT] kx2) := by simp [plM, mkN]; decide
  have e2 : mkN (plM [7, minT] kx2) = 3 := by simp [plM, mkN]; decide
  unfold itemA
  rw [if_neg (by decide), if_pos rfl, if_neg e, e2]
  rfl

set_option maxRecDepth 100000 in
set_option maxHeartbeats 4000000 in
theorem known15_any (I : Rpi Pk) (w : World) : Calls Tryz.prog 6 #[] w fun e w' => e = .returned (.bool true) ∧ Calm w w' := by
  have CS := fun w => hide (small_any w)
  have CN := fun w => hide (Kr.new I smallC 2 w small_new)
  have S1 := hide (small_sit.next kx1)
  rw [kl1] at S1
  go_enter Tryz.func6, Tryz.ntmps6
  go_wp2_with fail
  refine (CS _).out.mono ?_
  rintro e w1 ⟨rfl, T1⟩
  have T1 := hide T1
  go_wp2_with fail
  refine (CN _).out.mono ?_
  rintro e w2 ⟨q, rfl, K2⟩
  have K2 : Kr Pk w1 q smallC 2 [minT, minT] 0 w2 := K2
  have C3 := hide (K2.item I small_sit kx1 kz1 ka1 kl1 (s' := 1) kn0)
  clear CS CN K2
  go_wp2_with fail
  refine C3.out.mono ?_
  rintro e w3 ⟨a, k, rfl, -, K3⟩
  have C4 := hide (K3.item I S1.out kx2 kz2 ka2 kl2 (s' := 2) kn1)
  clear C3 K3
  go_wp2_with fail
  refine C4.out.mono ?_
  rintro e w4 ⟨b, k4, rfl, O4, K4⟩
  obtain ⟨g, off, rfl, cb⟩ := sent_W (Rc.Own.mem O4).2.1 1 (by decide)
  have CW := hide (K4.water I (m := 3) (by decide))
  have CB := hide (cb w4 (Touch.refl _ _))
  clear C4 K4 O4 cb S1
  obtain ⟨⟨b0, b1, b2⟩, b3, b4, b5⟩ := CB.out
  simp only [List.getD_cons_succ, List.getD_cons_zero, Nat.one_mul] at b0 b1 b2 b3 b4 b5
  go_wp2_with fail
  refine CW.out.mono ?_
  rintro e w5 ⟨rfl, K5, -⟩
  have CQ := hide (K5.seq I)
  clear CW
  go_wp2_with fail
  refine CQ.out.mono ?_
  rintro e w6 ⟨rfl, K6, -⟩
  have HF := hide (T1.out.tr K6.calm)
  clear CQ K5 K6
  go_wp2_with fail
  go_ret
  exact ⟨rfl, HF.out⟩
end

end Go.Proofs.YtapnjofplilefaaGreat
