/- ClockPlays: what lies there when the steps begin. -/
import Derived.Test.YtcmigkemhoecfaaKN
import Derived.Test.YtcmigkemhoecfaaYLi
namespace Go.Proofs.Ytcmigkemhoecfaa
open Go.RowKit

section
variable {Pk : World → Nat → (Nat → Prop) → List Int → List Hd → Prop}

/-- What New or Of answers, of the program's and of the document's. -/
def MdC (Pk : World → Nat → (Nat → Prop) → List Int → List Hd → Prop) (b : Bool) (L : List Int) (w : World) (v : Value) (z : Int) (w' : World) : Prop := (b = false ∧ v = .pointer none ∧ z = 2) ∨ (b = true ∧ ∃ q, v = cp q ∧ z = 0 ∧ Pk w' q (fun g => w.heap.size ≤ g ∧ g < w'.heap.size) L [])
def MdR (b : Bool) (L : List Int) (w : World) (v : Value) (z : Int) (w' : World) : Prop := (b = false ∧ v = .pointer none ∧ z = 2) ∨ (b = true ∧ ∃ q, v = cp q ∧ z = 0 ∧ Rk w' q (fun g => w.heap.size ≤ g ∧ g < w'.heap.size) L [])
def newB (n : Int) : Bool := decide (1 ≤ n) && decide (n ≤ 64)
theorem newB_no {n : Int} (h : newB n = false) : n < 1 ∨ 64 < n := by
  unfold newB at h
  simp at h
  omega
theorem newB_yes {n : Int} (h : newB n = true) : ∃ k : Nat, n = (k : Int) ∧ 1 ≤ k ∧ k ≤ 64 := by
  unfold newB at h
  simp at h
  exact ⟨n.toNat, by omega, by omega, by omega⟩
theorem newC (I : Pki Pk) (n : Int) (w : World) : Calls Try.prog 8 #[.int .i64 n] w fun e w' => ∃ v z, e = .returned (.tuple #[v, .int .i64 z]) ∧ MdC Pk (newB n) (List.replicate n.toNat minT) w v z w' ∧ Calm w w' := by
  cases hb : newB n with
  | false => exact (I.new_bad n w (newB_no hb)).mono fun _ _ h => ⟨_, _, h.1, .inl ⟨rfl, rfl, rfl⟩, h.2⟩
  | true =>
    obtain ⟨k, rfl, h1, h2⟩ := newB_yes hb
    exact (I.new_ok k w h1 h2).mono fun _ _ ⟨q, h, p, c⟩ => ⟨_, _, h, .inr ⟨rfl, q, rfl, rfl, p⟩, c⟩
theorem newR (n : Int) (w : World) : Calls Try.prog 10 #[.int .i64 n] w fun e w' => ∃ v z, e = .returned (.tuple #[v, .int .i64 z]) ∧ MdR (newB n) (List.replicate n.toNat minT) w v z w' ∧ Calm w w' := by
  cases hb : newB n with
  | false => exact (rnew_bad n (newB_no hb) w).mono fun _ _ h => ⟨_, _, h.1, .inl ⟨rfl, rfl, rfl⟩, by rw [h.2]; exact Touch.refl _ _⟩
  | true =>
    obtain ⟨k, rfl, h1, h2⟩ := newB_yes hb
    exact (rnew_ok k h1 h2 w).mono fun _ _ ⟨q, h, _, p, c⟩ => ⟨_, _, h, .inr ⟨rfl, q, rfl, rfl, p⟩, c⟩
theorem ofC (I : Pki Pk) (M : List Int) (mo : Option Addr) (mc : Nat) (w : World) (h : encJ.Sl w mo mc M) (hl : M.length ≤ 17592186043904) : Calls Try.prog 9 #[.slice mo M.length mc] w fun e w' => ∃ v z, e = .returned (.tuple #[v, .int .i64 z]) ∧ MdC Pk (ofB M) M w v z w' ∧ Calm w w' :=
  (I.of M mo mc w h hl).mono fun _ _ h => h.elim (fun ⟨a, b, c⟩ => ⟨_, _, b, .inl ⟨a, rfl, rfl⟩, c⟩) fun ⟨a, q, b, p, c⟩ => ⟨_, _, b, .inr ⟨a, q, rfl, rfl, p⟩, c⟩
theorem ofR (M : List Int) (mo : Option Addr) (mc : Nat) (w : World) (h : encJ.Sl w mo mc M) (hl : M.length ≤ 17592186043904) : Calls Try.prog 11 #[.slice mo M.length mc] w fun e w' => ∃ v z, e = .returned (.tuple #[v, .int .i64 z]) ∧ MdR (ofB M) M w v z w' ∧ Calm w w' :=
  (rof_any M mo mc w h (by omega)).mono fun _ _ h => h.elim (fun ⟨a, b, c⟩ => ⟨_, _, b, .inl ⟨a, rfl, rfl⟩, c⟩) fun ⟨a, q, b, _, p, c⟩ => ⟨_, _, b, .inr ⟨a, q, rfl, rfl, p⟩, c⟩
/-- The two of them. -/
theorem made_two (I : Pki Pk) {b : Bool} {L : List Int} {w1 w2 w3 w4 W : World} {v u : Value} {z z' : Int} (h1 : MdC Pk b L w1 v z w2) (h2 : MdR b L w3 u z' w4) (c1 : Calm w2 W) (c2 : Calm w4 W) (hs : w2.heap.size ≤ w3.heap.size) : ∃ o : Option Pr, v = cvO o ∧ u = rvO o ∧ z = z' ∧ okO Pk 0 W o ∧ ∀ g, fpO o g → (w1.heap.size ≤ g ∧ g < w2.heap.size) ∨ (w3.heap.size ≤ g ∧ g < w4.heap.size) := by
  rcases h1 with ⟨rfl, rfl, rfl⟩ | ⟨rfl, q, rfl, rfl, p⟩
  · rcases h2 with ⟨-, rfl, rfl⟩ | ⟨h, -⟩
    · exact ⟨none, rfl, rfl, rfl, trivial, fun _ h => h.elim⟩
    · cases h
  · rcases h2 with ⟨h, -⟩ | ⟨-, r, rfl, rfl, p2⟩
    · cases h
    · refine ⟨some ⟨q, r, _, _, L, []⟩, rfl, rfl, rfl, ⟨⟨I.calm p c1, p2.calm c2, fun g hg hf => ?_⟩, Nat.le_refl _⟩, fun g hg => hg⟩
      have := hg.2
      have := hf.1
      omega

/-- A script. -/
def encS : Rc.Enc Stp := ⟨7, fun s => (stpc s).toList, fun _ => rfl, fun _ u hu => by simp at hu; rcases hu with rfl | rfl | rfl | rfl | rfl | rfl | rfl <;> rfl, by decide⟩
abbrev stp0 : Stp := ⟨0, 0, 0, 0, 0, ⟨#[]⟩, 0, by decide⟩
theorem stp_at {w : World} {ao : Option Addr} {S : List Stp} (h : encS.Mem w ao S) (j : Nat) (hj : j < S.length) : ∃ b off, ao = some ⟨b, off, none⟩ ∧ w.cell? ⟨b, off + j * 7, none⟩ = some (.int .i64 (S.getD j stp0).k) ∧ w.cell? ⟨b, off + j * 7 + 1, none⟩ = some (.int .i64 (S.getD j stp0).who) ∧ w.cell? ⟨b, off + j * 7 + 2, none⟩ = some (.int .i64 (S.getD j stp0).to) ∧ w.cell? ⟨b, off + j * 7 + 3, none⟩ = some (.int .i64 (S.getD j stp0).src) ∧ w.cell? ⟨b, off + j * 7 + 4, none⟩ = some (.int .i64 (S.getD j stp0).lv) ∧ w.cell? ⟨b, off + j * 7 + 5, none⟩ = some (.string (S.getD j stp0).nm) ∧ w.cell? ⟨b, off + j * 7 + 6, none⟩ = some (.int .i64 (S.getD j stp0).t) := by
  obtain ⟨b, off, e, g⟩ := Rc.Mem.at h j hj
  rw [List.getD_eq_getElem?_getD, List.getElem?_eq_getElem hj]
  exact ⟨b, off, e, g 0 _ rfl, g 1 _ rfl, g 2 _ rfl, g 3 _ rfl, g 4 _ rfl, g 5 _ rfl, g 6 _ rfl⟩

/-- Numbers that may be written over. -/
def Rows99 (g n : Nat) (w : World) : Prop := ∃ cs, w.heap[g]? = some (.cells cs 2 (0, 0)) ∧ n ≤ cs.size
theorem Lent.rows {w : World} {g c : Nat} {xs : List Int} (h : Lent w g c xs) : Rows99 g xs.length w := by
  rcases h.row.form with ⟨hv, _⟩ | ⟨g', cap', cur, hv, h1, h2, -, h4, -⟩
  · cases hv
  · injection hv with e1 _ _
    injection e1 with e1
    injection e1 with e1 _ _
    subst e1
    exact ⟨cur, h1, by rw [h4]; simp at h2; omega⟩
/-- Where the steps begin. -/
def triS (a b : Option Pr) : Nat → Option Pr := fun i => if i = 0 then a else if i = 1 then b else none
theorem tri_begin (I : Pki Pk) {w W : World} {a b : Option Pr} (hc : Calm w W) (ha : okO Pk 0 W a) (hb : okO Pk 0 W b) (hap : ∀ g, fpO a g → ¬ fpO b g) (la : ∀ g, fpO a g → w.heap.size ≤ g) (lb : ∀ g, fpO b g → w.heap.size ≤ g) : Tri Pk w W.heap.size (W.heap.size + 1) 0 (triS a b) ((W.alloc (.cells #[cvO a, cvO b, .pointer none] 36)).alloc (.cells #[rvO a, rvO b, .pointer none] 37)) := by
  have tA : Calm W (W.alloc (.cells #[cvO a, cvO b, .pointer none] 36)) := (Touch.refl _ _).alloc _
  have h1 := al_new W (.cells #[cvO a, cvO b, .pointer none] 36)
  have e1 := al_size W (.cells #[cvO a, cvO b, .pointer none] 36)
  generalize W.alloc (.cells #[cvO a, cvO b, .pointer none] 36) = V at *
  have tB : Calm V (V.alloc (.cells #[rvO a, rvO b, .pointer none] 37)) := (Touch.refl _ _).alloc _
  have h2 := al_new V (.cells #[rvO a, rvO b, .pointer none] 37)
  rw [e1] at h2
  have sW := hc.size
  have ta := fun g hg => okO_lt I ha g hg
  have tb := fun g hg => okO_lt I hb g hg
  have ok : ∀ i, i < 3 → okO Pk 0 W (triS a b i) := fun i _ => by
    unfold triS
    split
    · exact ha
    · split
      · exact hb
      · trivial
  have lo : ∀ i, i < 3 → ∀ g, fpO (triS a b i) g → w.heap.size ≤ g := fun i _ g hg => by
    unfold triS at hg
    split at hg
    · exact la g hg
    · split at hg
      · exact lb g hg
      · exact hg.elim
  refine ⟨(hc.tr tA).tr tB, tB.at h1, h2, fun i hi => okO_touch I (ok i hi) (tA.tr tB) fun _ _ h => h, fun i j hi hj hij g hg hg2 => ?_, fun i hi g hg => ?_, ⟨sW, by omega⟩⟩
  · rcases (by omega : i = 0 ∨ i = 1 ∨ i = 2) with rfl | rfl | rfl <;> rcases (by omega : j = 0 ∨ j = 1 ∨ j = 2) with rfl | rfl | rfl
    · exact hij rfl
    · exact hap g hg hg2
    · exact hg2
    · exact hap g hg2 hg
    · exact hij rfl
    · exact hg2
    · exact hg
    · exact hg
    · exact hij rfl
  · have h3 := okO_lt I (ok i hi) g hg
    exact ⟨lo i hi g hg, by omega, by omega⟩

end
end Go.Proofs.Ytcmigkemhoecfaa
