/- The program's with, cut, joined. Lists in order, and a key among them: what is ahead of it, it, what is behind it. No memory. The program's sideOf. -/
import Derived.Test.YtamfcmmhmfhhkaaDoorG19
import Derived.Test.YtamfcmmhmfhhkaaDoorG1
namespace Go.Proofs.YtamfcmmhmfhhkaaDoor.LM
open Go.RowKit

set_option maxRecDepth 100000 in
set_option maxHeartbeats 1000000 in
theorem with0_any (b : Nat) (k : ByteArray) (v : (Option Addr × Nat × Nat)) (x y p : Option Addr) (L R : List (ByteArray × (Option Addr × Nat × Nat))) (w : World) (hn : Nd w b k v x y) (hl : TL w (.pointer p) L) (hr : TL w (.pointer y) R) (low : Low (L.length + 1 + R.length)) :
    Calls Tryd.prog 95 #[.pointer (some ⟨b, 0, none⟩), .int .i64 0, .pointer p] w fun e w' => ∃ b', e = .returned (.pointer (some ⟨b', 0, none⟩)) ∧ TL w' (.pointer (some ⟨b', 0, none⟩)) (L ++ (k, v) :: R) ∧ Calm w w' := by
  have BA := hide (fun (W : World) (h : Calm w W) => balanced_any b k v x y p y L R W (hn.calm h) (hl.calm h) (hr.calm h) low)
  obtain ⟨n, hb⟩ := hn
  obtain ⟨-, -, -, c3, c4⟩ := cells5 hb
  clear hl hr low hb
  go_enter Tryd.func95, Tryd.ntmps95
  go_wp2_with fail
  refine (pair0_any _ _ _).mono ?_
  rintro e w2 ⟨rfl, t2⟩
  go_wp2_with fail
  refine (BA.out _ t2).mono ?_
  rintro e w3 ⟨b3, rfl, tl3, t3⟩
  go_wp2_with fail
  go_ret
  exact ⟨_, rfl, tl3, t2.tr t3⟩


set_option maxRecDepth 100000 in
set_option maxHeartbeats 1000000 in
theorem with1_any (b : Nat) (k : ByteArray) (v : (Option Addr × Nat × Nat)) (x y p : Option Addr) (L R : List (ByteArray × (Option Addr × Nat × Nat))) (w : World) (hn : Nd w b k v x y) (hl : TL w (.pointer x) L) (hr : TL w (.pointer p) R) (low : Low (L.length + 1 + R.length)) :
    Calls Tryd.prog 95 #[.pointer (some ⟨b, 0, none⟩), .int .i64 1, .pointer p] w fun e w' => ∃ b', e = .returned (.pointer (some ⟨b', 0, none⟩)) ∧ TL w' (.pointer (some ⟨b', 0, none⟩)) (L ++ (k, v) :: R) ∧ Calm w w' := by
  have BA := hide (fun (W : World) (h : Calm w W) => balanced_any b k v x y x p L R W (hn.calm h) (hl.calm h) (hr.calm h) low)
  obtain ⟨n, hb⟩ := hn
  obtain ⟨-, -, -, c3, c4⟩ := cells5 hb
  clear hl hr low hb
  go_enter Tryd.func95, Tryd.ntmps95
  go_wp2_with fail
  refine (pair1_any _ _ _).mono ?_
  rintro e w2 ⟨rfl, t2⟩
  go_wp2_with fail
  refine (BA.out _ t2).mono ?_
  rintro e w3 ⟨b3, rfl, tl3, t3⟩
  go_wp2_with fail
  go_ret
  exact ⟨_, rfl, tl3, t2.tr t3⟩


end Go.Proofs.YtamfcmmhmfhhkaaDoor.LM

namespace Go.Proofs.YtamfcmmhmfhhkaaDoor

section
variable {K V : Type}

/-- What is ahead of a key of which f tells how it compares with others. -/
def up (f : K → Int) (X : List (K × V)) : List (K × V) := X.filter fun a => decide (0 < f a.1)
/-- What is behind it. -/
def dn (f : K → Int) (X : List (K × V)) : List (K × V) := X.filter fun a => decide (f a.1 < 0)
/-- It, as it is there. -/
def it (f : K → Int) (X : List (K × V)) : Option (K × V) := X.find? fun a => decide (f a.1 = 0)

/-- The key put. -/
def lput (f : K → Int) (k : K) (v : V) (X : List (K × V)) : List (K × V) := up f X ++ (match it f X with | none => k | some a => a.1, v) :: dn f X
/-- The key taken away. -/
def ldrop (f : K → Int) (X : List (K × V)) : List (K × V) := up f X ++ dn f X

/-- In the order of f: first what is ahead, then at most one, then what is behind. -/
def Dec (f : K → Int) (X : List (K × V)) : Prop := X.Pairwise fun a b => f a.1 ≤ 0 → f b.1 < 0

theorem Dec.parts {f : K → Int} {L R : List (K × V)} {x : K × V} (h : Dec f (L ++ x :: R)) : Dec f L ∧ Dec f R ∧ (∀ a ∈ L, f a.1 ≤ 0 → f x.1 < 0) ∧ (f x.1 ≤ 0 → ∀ b ∈ R, f b.1 < 0) := by
  unfold Dec at *
  rw [List.pairwise_append, List.pairwise_cons] at h
  exact ⟨h.1, h.2.1.2, fun a ha => h.2.2 a ha x (by simp), fun hx b hb => h.2.1.1 b hb hx⟩

theorem up_all {f : K → Int} {L : List (K × V)} (h : ∀ a ∈ L, 0 < f a.1) : up f L = L ∧ dn f L = [] ∧ it f L = none := by
  refine ⟨List.filter_eq_self.2 fun a ha => decide_eq_true (h a ha), List.filter_eq_nil_iff.2 fun a ha => ?_, List.find?_eq_none.2 fun a ha => ?_⟩
  · have := h a ha; simp; omega
  · have := h a ha; simp; omega

theorem dn_all {f : K → Int} {L : List (K × V)} (h : ∀ a ∈ L, f a.1 < 0) : up f L = [] ∧ dn f L = L ∧ it f L = none := by
  refine ⟨List.filter_eq_nil_iff.2 fun a ha => ?_, List.filter_eq_self.2 fun a ha => decide_eq_true (h a ha), List.find?_eq_none.2 fun a ha => ?_⟩
  · have := h a ha; simp; omega
  · have := h a ha; simp; omega

theorem Dec.left {f : K → Int} {L R : List (K × V)} {x : K × V} (h : Dec f (L ++ x :: R)) (hx : 0 ≤ f x.1) : ∀ a ∈ L, 0 < f a.1 := fun a ha => by
  have := h.parts.2.2.1 a ha
  omega

theorem Dec.right {f : K → Int} {L R : List (K × V)} {x : K × V} (h : Dec f (L ++ x :: R)) (hx : f x.1 ≤ 0) : ∀ a ∈ R, f a.1 < 0 := h.parts.2.2.2 hx

theorem up_app (f : K → Int) (L R : List (K × V)) : up f (L ++ R) = up f L ++ up f R := List.filter_append ..
theorem dn_app (f : K → Int) (L R : List (K × V)) : dn f (L ++ R) = dn f L ++ dn f R := List.filter_append ..
theorem it_app (f : K → Int) (L R : List (K × V)) : it f (L ++ R) = (it f L).or (it f R) := List.find?_append ..

theorem up_cons (f : K → Int) (x : K × V) (R : List (K × V)) : up f (x :: R) = if 0 < f x.1 then x :: up f R else up f R := by
  unfold up; rw [List.filter_cons]; simp
theorem dn_cons (f : K → Int) (x : K × V) (R : List (K × V)) : dn f (x :: R) = if f x.1 < 0 then x :: dn f R else dn f R := by
  unfold dn; rw [List.filter_cons]; simp
theorem it_cons (f : K → Int) (x : K × V) (R : List (K × V)) : it f (x :: R) = if f x.1 = 0 then some x else it f R := by
  unfold it; rw [List.find?_cons]; by_cases h : f x.1 = 0 <;> simp [h]

/-- The key stands behind x. -/
theorem pos_way {f : K → Int} {L R : List (K × V)} {x : K × V} (h : Dec f (L ++ x :: R)) (hx : 0 < f x.1) : up f (L ++ x :: R) = L ++ x :: up f R ∧ dn f (L ++ x :: R) = dn f R ∧ it f (L ++ x :: R) = it f R := by
  obtain ⟨a, b, c⟩ := up_all (h.left (by omega))
  rw [up_app, dn_app, it_app, a, b, c, up_cons, dn_cons, it_cons, if_pos hx, if_neg (by omega), if_neg (by omega)]
  exact ⟨rfl, rfl, rfl⟩

/-- The key stands ahead of x. -/
theorem neg_way {f : K → Int} {L R : List (K × V)} {x : K × V} (h : Dec f (L ++ x :: R)) (hx : f x.1 < 0) : up f (L ++ x :: R) = up f L ∧ dn f (L ++ x :: R) = dn f L ++ x :: R ∧ it f (L ++ x :: R) = it f L := by
  obtain ⟨a, b, c⟩ := dn_all (h.right (by omega))
  rw [up_app, dn_app, it_app, up_cons, dn_cons, it_cons, if_pos hx, if_neg (by omega), if_neg (by omega), a, b, c]
  simp

/-- The key is x's. -/
theorem at_way {f : K → Int} {L R : List (K × V)} {x : K × V} (h : Dec f (L ++ x :: R)) (hx : f x.1 = 0) : up f (L ++ x :: R) = L ∧ dn f (L ++ x :: R) = R ∧ it f (L ++ x :: R) = some x := by
  obtain ⟨a, b, c⟩ := up_all (h.left (by omega))
  obtain ⟨a', b', c'⟩ := dn_all (h.right (by omega))
  rw [up_app, dn_app, it_app, up_cons, dn_cons, it_cons, if_neg (by omega), if_neg (by omega), if_pos hx, a, b, c, a', b']
  simp

theorem lput_pos {f : K → Int} {k : K} {v : V} {L R : List (K × V)} {x : K × V} (h : Dec f (L ++ x :: R)) (hx : 0 < f x.1) : lput f k v (L ++ x :: R) = L ++ x :: lput f k v R := by
  obtain ⟨a, b, c⟩ := pos_way h hx
  unfold lput; rw [a, b, c]; simp
theorem lput_neg {f : K → Int} {k : K} {v : V} {L R : List (K × V)} {x : K × V} (h : Dec f (L ++ x :: R)) (hx : f x.1 < 0) : lput f k v (L ++ x :: R) = lput f k v L ++ x :: R := by
  obtain ⟨a, b, c⟩ := neg_way h hx
  unfold lput; rw [a, b, c]; simp
theorem lput_at {f : K → Int} {k : K} {v : V} {L R : List (K × V)} {x : K × V} (h : Dec f (L ++ x :: R)) (hx : f x.1 = 0) : lput f k v (L ++ x :: R) = L ++ (x.1, v) :: R := by
  obtain ⟨a, b, c⟩ := at_way h hx
  unfold lput; rw [a, b, c]
theorem ldrop_pos {f : K → Int} {L R : List (K × V)} {x : K × V} (h : Dec f (L ++ x :: R)) (hx : 0 < f x.1) : ldrop f (L ++ x :: R) = L ++ x :: ldrop f R := by
  obtain ⟨a, b, c⟩ := pos_way h hx
  unfold ldrop; rw [a, b]; simp
theorem ldrop_neg {f : K → Int} {L R : List (K × V)} {x : K × V} (h : Dec f (L ++ x :: R)) (hx : f x.1 < 0) : ldrop f (L ++ x :: R) = ldrop f L ++ x :: R := by
  obtain ⟨a, b, c⟩ := neg_way h hx
  unfold ldrop; rw [a, b]; simp
theorem ldrop_at {f : K → Int} {L R : List (K × V)} {x : K × V} (h : Dec f (L ++ x :: R)) (hx : f x.1 = 0) : ldrop f (L ++ x :: R) = L ++ R := by
  obtain ⟨a, b, c⟩ := at_way h hx
  unfold ldrop; rw [a, b]

theorem Dec.split {f : K → Int} : ∀ {X : List (K × V)}, Dec f X → X = up f X ++ (it f X).toList ++ dn f X := by
  intro X
  induction X with
  | nil => intro _; rfl
  | cons x R ih =>
    intro h
    have h' : Dec f ([] ++ x :: R) := h
    rcases Int.lt_trichotomy (f x.1) 0 with hx | hx | hx
    · obtain ⟨a, b, c⟩ := neg_way h' hx
      simp only [List.nil_append] at a b c
      rw [a, b, c]; rfl
    · obtain ⟨a, b, c⟩ := at_way h' hx
      simp only [List.nil_append] at a b c
      rw [a, b, c]; rfl
    · obtain ⟨a, b, c⟩ := pos_way h' hx
      simp only [List.nil_append] at a b c
      rw [a, b, c]
      simpa using ih h'.parts.2.1

theorem ldrop_none {f : K → Int} {X : List (K × V)} (h : Dec f X) (hn : it f X = none) : ldrop f X = X := by
  have := h.split
  rw [hn] at this
  unfold ldrop
  simpa using this.symm

theorem lput_len {f : K → Int} {k : K} {v : V} {X : List (K × V)} (h : Dec f X) : (lput f k v X).length ≤ X.length + 1 ∧ X.length ≤ (lput f k v X).length := by
  have := congrArg List.length h.split
  unfold lput
  simp only [List.length_append, List.length_cons] at *
  cases hi : it f X with
  | none => simp [hi] at this ⊢; omega
  | some a => simp [hi] at this ⊢; omega

theorem ldrop_len {f : K → Int} {X : List (K × V)} (h : Dec f X) : (ldrop f X).length ≤ X.length ∧ X.length ≤ (ldrop f X).length + 1 := by
  have := congrArg List.length h.split
  unfold ldrop
  simp only [List.length_append] at *
  cases hi : it f X with
  | none => simp [hi] at this ⊢; omega
  | some a => simp [hi] at this ⊢; omega
end

end Go.Proofs.YtamfcmmhmfhhkaaDoor

namespace Go.Proofs.YtamfcmmhmfhhkaaDoor
open Go.RowKit

/-- The side on which a key stands. -/
def sd (c : Int) : Int := if c < 0 then 0 else 1

theorem sd_or (c : Int) : sd c = 0 ∨ sd c = 1 := by unfold sd; split <;> simp

set_option maxRecDepth 100000 in
theorem sideOf_any (c : Int) (w : World) : Calls Tryd.prog 71 #[.int .i64 c] w fun e w' => e = .returned (.int .i64 (sd c)) ∧ w' = w := by
  unfold sd
  by_cases h : c < 0
  · go_enter Tryd.func71, Tryd.ntmps71
    go_wp2_with fail
    go_ret
    exact ⟨by simp, rfl⟩
  · go_enter Tryd.func71, Tryd.ntmps71
    go_wp2_with fail
    go_ret
    exact ⟨by simp, rfl⟩

end Go.Proofs.YtamfcmmhmfhhkaaDoor
