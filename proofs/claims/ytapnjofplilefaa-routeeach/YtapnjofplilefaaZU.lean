/- Two routers of the program's side by side, one of them with one worker (RouteEach). -/
import Derived.Test.YtapnjofplilefaaZ3
namespace Go.Proofs.Ytapnjofplilefaa
open Go.RowKit

theorem foldl_min_le : ∀ (M : List Int) (a b : Int), a ≤ b → M.foldl min a ≤ M.foldl min b
  | [], _, _, h => h
  | x :: M, a, b, h => foldl_min_le M _ _ (by omega)
theorem foldl_min_two : ∀ (M N : List Int) (a b : Int), a ≤ b → M.length = N.length → (∀ i, i < M.length → M.getD i 0 ≤ N.getD i 0) → M.foldl min a ≤ N.foldl min b
  | [], [], _, _, h, _, _ => h
  | [], _ :: _, _, _, _, h, _ => by simp at h
  | _ :: _, [], _, _, _, h, _ => by simp at h
  | x :: M, y :: N, a, b, h, hl, hi => by
    have h0 : x ≤ y := hi 0 (by simp)
    exact foldl_min_two M N _ _ (by omega) (by simpa using hl) (fun i hj => hi (i + 1) (by simpa using hj))
/-- A mark does not lower the watermark. -/
theorem mkN_up (L : List Int) (x : It) : mkN L ≤ mkN (plM L x) := by
  have hx : ∀ i, L.getD i 0 ≤ (plM L x).getD i 0 := fun i => by
    unfold plM
    by_cases h : i = x.sr.toNat
    · subst h
      by_cases hl : x.sr.toNat < L.length
      · rw [show (L.set x.sr.toNat (max (L.getD x.sr.toNat 0) x.tm)).getD x.sr.toNat 0 = max (L.getD x.sr.toNat 0) x.tm by simp [List.getD_eq_getElem?_getD, hl]]
        omega
      · rw [List.set_eq_of_length_le (by omega)]; omega
    · rw [show (L.set x.sr.toNat (max (L.getD x.sr.toNat 0) x.tm)).getD i 0 = L.getD i 0 by simp [List.getD_eq_getElem?_getD, Ne.symm h]]
      omega
  unfold mkN
  exact foldl_min_two L (plM L x) _ _ (hx 0) (plM_len L x).symm fun i _ => hx i
theorem itemZ_key {c : Cf} {x : It} (h : itemZ c x = true) : x.ke.size ≤ 256 := by
  rcases itemZ_k h with hk | hk | hk
  · exact itemZ_1 h hk
  · unfold itemZ at h
    rw [if_neg (by omega), if_pos hk] at h
    simp at h
    have := h.1.1
    have e : x.ke.data.toList = [] := by rw [← ByteArray.toList_eq]; exact this
    have e2 : x.ke.size = x.ke.data.toList.length := by simp
    rw [e2, e]; simp
  · unfold itemZ at h
    rw [if_neg (by omega), if_neg (by omega), if_pos hk] at h
    simp at h
    have := h.1
    have e : x.ke.data.toList = [] := by rw [← ByteArray.toList_eq]; exact this
    have e2 : x.ke.size = x.ke.data.toList.length := by simp
    rw [e2, e]; simp
theorem wk_one {g r : Nat} (h : r < g) : wk 1 g r = 0 := by
  unfold wk
  rw [Nat.mul_one, Nat.add_sub_cancel]
  exact Nat.div_eq_of_lt h

theorem new_so {c : Cf} {wr : Int} (h : newE c wr = 0) : 1 ≤ c.so.toNat := by
  rcases newE_cases c wr with ⟨e, -⟩ | ⟨e, -⟩ | ⟨-, h1, -⟩
  · rw [e] at h; cases h
  · rw [e] at h; cases h
  · have hj : jobP c := of_decide_eq_true h1
    unfold jobP at hj
    omega
theorem foldl_min_rep : ∀ (n : Nat) (m : Int), (List.replicate n m).foldl min m = m
  | 0, _ => rfl
  | n + 1, m => by rw [List.replicate_succ, List.foldl_cons, Int.min_self, foldl_min_rep n m]
theorem mkN_rep (n : Nat) (h : 1 ≤ n) (m : Int) : mkN (List.replicate n m) = m := by
  unfold mkN
  obtain ⟨k, rfl⟩ : ∃ k, n = k + 1 := ⟨n - 1, by omega⟩
  exact foldl_min_rep (k + 1) m

theorem all_get (n : Nat) (x : Sn) (j : Nat) (h : j < n) : (allS n x).getD j sn0 = ⟨(j : Int), x.ki, x.sq, x.ke, x.tm, x.va⟩ := by
  simp [allS, List.getD_eq_getElem?_getD, h]
/-- The cells of a message to all. -/
theorem all_W {w : World} {b k : Nat} {ao : Option Addr} {n : Nat} {x : Sn} (h : encSn.Own 59 w b (.slice ao n k) (allS n x)) (h1 : 1 ≤ n) : ∃ g, ao = some ⟨g, 0, none⟩ ∧ ∀ j, j < n → ∀ W, Calm w W →
    (W.cell? ⟨g, j * 6, none⟩ = some (.int .i64 (j : Int)) ∧ W.cell? ⟨g, j * 6 + 1, none⟩ = some (.int .i64 x.ki) ∧ W.cell? ⟨g, j * 6 + 2, none⟩ = some (.int .i64 x.sq)) ∧ W.cell? ⟨g, j * 6 + 3, none⟩ = some (.string x.ke) ∧ W.cell? ⟨g, j * 6 + 4, none⟩ = some (.int .i64 x.tm) ∧ W.cell? ⟨g, j * 6 + 5, none⟩ = some (.int .i64 x.va) := by
  obtain ⟨-, m, -, -, -, h5⟩ := Rc.Own.mem h
  obtain ⟨g, off, rfl, -⟩ := sent_W m 0 (by rw [all_len]; omega)
  obtain ⟨-, e, -⟩ := h5 _ rfl
  have e : off = 0 := e
  subst e
  refine ⟨g, rfl, fun j hj W hW => ?_⟩
  obtain ⟨g2, off2, e2, c⟩ := sent_W m j (by rw [all_len]; exact hj)
  injection e2 with e2
  injection e2 with e3 e4
  subst e3 e4
  have := c W hW
  rw [all_get n x j hj] at this
  simpa only [Nat.zero_add] using this

/-- The cells of one message. -/
theorem sn_one {w : World} {b k : Nat} {ao : Option Addr} {n : Nat} {x : Sn} (h : encSn.Own 59 w b (.slice ao n k) [x]) : ∃ g, ao = some ⟨g, 0, none⟩ ∧ ∀ W, Calm w W →
    (W.cell? ⟨g, 0, none⟩ = some (.int .i64 x.wk) ∧ W.cell? ⟨g, 1, none⟩ = some (.int .i64 x.ki) ∧ W.cell? ⟨g, 2, none⟩ = some (.int .i64 x.sq)) ∧ W.cell? ⟨g, 3, none⟩ = some (.string x.ke) ∧ W.cell? ⟨g, 4, none⟩ = some (.int .i64 x.tm) ∧ W.cell? ⟨g, 5, none⟩ = some (.int .i64 x.va) := by
  obtain ⟨-, m, -, -, -, h5⟩ := Rc.Own.mem h
  obtain ⟨g, off, rfl, c⟩ := sent_W m 0 (by simp)
  obtain ⟨-, e, -⟩ := h5 _ rfl
  have e : off = 0 := e
  subst e
  exact ⟨g, rfl, fun W hW => c W hW⟩

theorem msg_cells {w : World} {b : Nat} {k s t v : Int} {x : ByteArray} {ty : TypeId} (h : w.heap[b]? = some (.cells #[.int .i64 k, .int .i64 s, .string x, .int .i64 t, .int .i64 v] ty (0, 0))) :
    w.cell? ⟨b, 0, none⟩ = some (.int .i64 k) ∧ w.cell? ⟨b, 1, none⟩ = some (.int .i64 s) ∧ w.cell? ⟨b, 2, none⟩ = some (.string x) ∧ w.cell? ⟨b, 3, none⟩ = some (.int .i64 t) ∧ w.cell? ⟨b, 4, none⟩ = some (.int .i64 v) := by simp [World.cell?, h]
theorem msg_set {w : World} {b : Nat} {k s t v : Int} {x : ByteArray} {ty : TypeId} (h : w.heap[b]? = some (.cells #[.int .i64 k, .int .i64 s, .string x, .int .i64 t, .int .i64 v] ty (0, 0))) (k' s' : Int) (x' : ByteArray) (t' v' : Int) :
    (((((w.setCell ⟨b, 0, none⟩ (.int .i64 k')).setCell ⟨b, 1, none⟩ (.int .i64 s')).setCell ⟨b, 2, none⟩ (.string x')).setCell ⟨b, 3, none⟩ (.int .i64 t')).setCell ⟨b, 4, none⟩ (.int .i64 v')).heap[b]? = some (.cells #[.int .i64 k', .int .i64 s', .string x', .int .i64 t', .int .i64 v'] ty (0, 0)) ∧
    Touch (fun k => k = b) w (((((w.setCell ⟨b, 0, none⟩ (.int .i64 k')).setCell ⟨b, 1, none⟩ (.int .i64 s')).setCell ⟨b, 2, none⟩ (.string x')).setCell ⟨b, 3, none⟩ (.int .i64 t')).setCell ⟨b, 4, none⟩ (.int .i64 v')) := by
  have k1 := heap_setCell_row (i := 0) h (.int .i64 k')
  have k2 := heap_setCell_row (i := 1) k1 (.int .i64 s')
  have k3 := heap_setCell_row (i := 2) k2 (.string x')
  have k4 := heap_setCell_row (i := 3) k3 (.int .i64 t')
  have k5 := heap_setCell_row (i := 4) k4 (.int .i64 v')
  exact ⟨by simpa using k5, (((((Touch.refl (fun k => k = b) w).setCell (p := ⟨b, 0, none⟩) (fun _ => rfl) _).setCell (p := ⟨b, 1, none⟩) (fun _ => rfl) _).setCell (p := ⟨b, 2, none⟩) (fun _ => rfl) _).setCell (p := ⟨b, 3, none⟩) (fun _ => rfl) _).setCell (p := ⟨b, 4, none⟩) (fun _ => rfl) _⟩

/-- Two routers made behind w; the second one's blocks lie below b. -/
def Ea (Pk : World → Nat → (Nat → Prop) → Cf → Nat → List Int → Int → Prop) (w : World) (q q1 b : Nat) (c : Cf) (p : Nat) (L : List Int) (s : Int) (L1 : List Int) (s1 : Int) (wr : World) : Prop :=
  ∃ G G1, Pk wr q G c p L s ∧ Pk wr q1 G1 c 1 L1 s1 ∧ (∀ g, G g → ¬ G1 g) ∧ (∀ g, G g → w.heap.size ≤ g) ∧ (∀ g, G1 g → w.heap.size ≤ g ∧ g < b) ∧ b ≤ wr.heap.size ∧ Calm w wr
section
variable {Pk : World → Nat → (Nat → Prop) → Cf → Nat → List Int → Int → Prop} {w wr : World} {q q1 b : Nat} {c : Cf} {p g : Nat} {L L1 : List Int} {s s1 : Int}

theorem Ea.calm (h : Ea Pk w q q1 b c p L s L1 s1 wr) : Calm w wr := by
  obtain ⟨G, G1, -, -, -, -, -, -, h⟩ := h
  exact h
theorem Ea.still (I : Rpi Pk) (h : Ea Pk w q q1 b c p L s L1 s1 wr) {w2 : World} (ht : Calm wr w2) : Ea Pk w q q1 b c p L s L1 s1 w2 := by
  obtain ⟨G, G1, h1, h2, h3, h4, h5, h6, h7⟩ := h
  exact ⟨G, G1, I.calm h1 ht, I.calm h2 ht, h3, h4, h5, Nat.le_trans h6 ht.size, h7.tr ht⟩
/-- The bound is moved up. -/
theorem Ea.up (I : Rpi Pk) (h : Ea Pk w q q1 b c p L s L1 s1 wr) : Ea Pk w q q1 wr.heap.size c p L s L1 s1 wr := by
  obtain ⟨G, G1, h1, h2, h3, h4, h5, h6, h7⟩ := h
  exact ⟨G, G1, h1, h2, h3, h4, fun g hg => ⟨(h5 g hg).1, I.lt h2 g hg⟩, Nat.le_refl _, h7⟩
theorem Ea.item_no (I : Rpi Pk) (h : Ea Pk w q q1 b c p L s L1 s1 wr) (hS : Sit c p g L) (x : It) (hz : itemZ c x = false) : Calls Try.prog 16 #[cp q, itv x] wr fun e w2 => ∃ a k, e = .returned (.tuple #[.slice a 0 k, .int .i64 5]) ∧ Ea Pk w q q1 b c p L s L1 s1 w2 := by
  have h0 := h
  obtain ⟨G, G1, h1, -⟩ := h
  exact (I.item_no x h1 hS hz).mono fun e w2 ⟨a, k, e1, _, t⟩ => ⟨a, k, e1, h0.still I t⟩
theorem Ea.item_no1 (I : Rpi Pk) (h : Ea Pk w q q1 b c p L s L1 s1 wr) (hS : Sit c 1 g L1) (x : It) (hz : itemZ c x = false) : Calls Try.prog 16 #[cp q1, itv x] wr fun e w2 => ∃ a k, e = .returned (.tuple #[.slice a 0 k, .int .i64 5]) ∧ Ea Pk w q q1 b c p L s L1 s1 w2 := by
  have h0 := h
  obtain ⟨G, G1, -, h1, -⟩ := h
  exact (I.item_no x h1 hS hz).mono fun e w2 ⟨a, k, e1, _, t⟩ => ⟨a, k, e1, h0.still I t⟩
theorem Ea.item (I : Rpi Pk) (h : Ea Pk w q q1 b c p L s L1 s1 wr) (hS : Sit c p g L) (x : It) (hz : itemZ c x = true) : Calls Try.prog 16 #[cp q, itv x] wr fun e w2 => ∃ a k, e = .returned (.tuple #[.slice a (itemA p g L s x).length k, .int .i64 0]) ∧ encSn.Own 59 w2 b (.slice a (itemA p g L s x).length k) (itemA p g L s x) ∧ Ea Pk w q q1 b c p (itemL L x) (nxt s) L1 s1 w2 := by
  obtain ⟨G, G1, h1, h2, h3, h4, h5, h6, h7⟩ := h
  refine (I.item_yes x h1 hS hz).mono fun e w2 ⟨a, k, e1, o, t, G', p', g'⟩ => ⟨a, k, e1, Rc.Own.base o h6, G', G1, p', I.touch h2 t fun k hk hg => h3 k hg hk, fun k hk hg => ?_, fun k hk => ?_, h5, Nat.le_trans h6 t.size, h7.trans t fun k hk hg => by have := h4 k hg; omega⟩
  · rcases g' k hk with e | e
    · exact h3 k e hg
    · have := (h5 k hg).2; omega
  · rcases g' k hk with e | e
    · exact h4 k e
    · have := h7.size; omega
theorem Ea.item1 (I : Rpi Pk) (h : Ea Pk w q q1 b c p L s L1 s1 wr) (hS : Sit c 1 g L1) (x : It) (hz : itemZ c x = true) {a0 : Option Addr} {k0 n0 : Nat} {A : List Sn} (ho : encSn.Own 59 wr b (.slice a0 n0 k0) A) : Calls Try.prog 16 #[cp q1, itv x] wr fun e w2 => ∃ a k, e = .returned (.tuple #[.slice a (itemA 1 g L1 s1 x).length k, .int .i64 0]) ∧ encSn.Own 59 w2 0 (.slice a (itemA 1 g L1 s1 x).length k) (itemA 1 g L1 s1 x) ∧ encSn.Own 59 w2 b (.slice a0 n0 k0) A ∧ Ea Pk w q q1 w2.heap.size c p L s (itemL L1 x) (nxt s1) w2 := by
  obtain ⟨G, G1, h1, h2, h3, h4, h5, h6, h7⟩ := h
  refine (I.item_yes x h2 hS hz).mono fun e w2 ⟨a, k, e1, o, t, G', p', g'⟩ => ⟨a, k, e1, Rc.Own.base o (Nat.zero_le _), Rc.Own.touch ho t fun k hk hg => by have := (own_lt ho hk).1; have := (h5 k hg).2; omega, G, G', I.touch h1 t fun k hk hg => h3 k hk hg, p', fun k hk hg => ?_, h4, fun k hk => ⟨?_, I.lt p' k hk⟩, Nat.le_refl _, h7.trans t fun k hk hg => by have := (h5 k hg).1; omega⟩
  · rcases g' k hg with e | e
    · exact h3 k hk e
    · have := I.lt h1 k hk; omega
  · rcases g' k hk with e | e
    · exact (h5 k e).1
    · have := h7.size; omega
theorem Ea.water (I : Rpi Pk) (h : Ea Pk w q q1 b c p L s L1 s1 wr) : Calls Try.prog 15 #[cp q] wr fun e w2 => e = .returned (.int .i64 (mkN L)) ∧ Calm wr w2 := by
  obtain ⟨G, G1, h1, -⟩ := h
  exact I.water h1
theorem Ea.water1 (I : Rpi Pk) (h : Ea Pk w q q1 b c p L s L1 s1 wr) : Calls Try.prog 15 #[cp q1] wr fun e w2 => e = .returned (.int .i64 (mkN L1)) ∧ Calm wr w2 := by
  obtain ⟨G, G1, -, h1, -⟩ := h
  exact I.water h1
theorem Ea.seq (I : Rpi Pk) (h : Ea Pk w q q1 b c p L s L1 s1 wr) : Calls Try.prog 17 #[cp q] wr fun e w2 => e = .returned (.int .i64 s) ∧ Calm wr w2 := by
  obtain ⟨G, G1, h1, -⟩ := h
  exact I.seq h1
theorem Ea.seq1 (I : Rpi Pk) (h : Ea Pk w q q1 b c p L s L1 s1 wr) : Calls Try.prog 17 #[cp q1] wr fun e w2 => e = .returned (.int .i64 s1) ∧ Calm wr w2 := by
  obtain ⟨G, G1, -, h1, -⟩ := h
  exact I.seq h1
theorem Ea.worker (I : Rpi Pk) (h : Ea Pk w q q1 b c p L s L1 s1 wr) (hS : Sit c p g L) (x : ByteArray) (hx : x.size ≤ 256) : Calls Try.prog 18 #[cp q, .string x] wr fun e w2 => e = .returned (.tuple #[.int .i64 (wk p g (hsh x % g) : Nat), .int .i64 0]) ∧ Calm wr w2 := by
  obtain ⟨G, G1, h1, -⟩ := h
  have := I.worker x h1 hS (by omega)
  rw [if_pos hx] at this
  exact this
end

end Go.Proofs.Ytapnjofplilefaa
