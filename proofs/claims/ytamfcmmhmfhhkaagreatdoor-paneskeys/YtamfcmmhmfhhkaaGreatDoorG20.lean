/- The program's with, cut, joined. Lists in order, and a key among them: what is ahead of it, it, what is behind it. No memory. The program's sideOf. The program's lay: a key put into a tree. -/
import Derived.Test.YtamfcmmhmfhhkaaGreatDoorG19
import Derived.Test.YtamfcmmhmfhhkaaGreatDoorG0
namespace Go.Proofs.YtamfcmmhmfhhkaaGreatDoor.LM
open Go.RowKit

set_option maxRecDepth 100000 in
set_option maxHeartbeats 1000000 in
theorem with0_any (b : Nat) (k : ByteArray) (v : (Option Addr × Nat × Nat)) (x y p : Option Addr) (L R : List (ByteArray × (Option Addr × Nat × Nat))) (w : World) (hn : Nd w b k v x y) (hl : TL w (.pointer p) L) (hr : TL w (.pointer y) R) (low : Low (L.length + 1 + R.length)) :
    Calls Tryz.prog 73 #[.pointer (some ⟨b, 0, none⟩), .int .i64 0, .pointer p] w fun e w' => ∃ b', e = .returned (.pointer (some ⟨b', 0, none⟩)) ∧ TL w' (.pointer (some ⟨b', 0, none⟩)) (L ++ (k, v) :: R) ∧ Calm w w' := by
  have BA := hide (fun (W : World) (h : Calm w W) => balanced_any b k v x y p y L R W (hn.calm h) (hl.calm h) (hr.calm h) low)
  obtain ⟨n, hb⟩ := hn
  obtain ⟨-, -, -, c3, c4⟩ := cells5 hb
  clear hl hr low hb
  go_enter Tryz.func73, Tryz.ntmps73
  go_wp2_with fail
  refine (pair0_any _ _ _).mono ?_
  rintro e w2 ⟨rfl, t2⟩
  go_wp2_with fail
  refine (BA.out _ t2).mono ?_
  rintro e w3 ⟨b3, rfl, tl3, t3⟩
  go_wp2_with fail
  go_ret
  exact ⟨_, rfl, tl3, t2.tr t3⟩


set_option maxRecDepth 100000 in
set_option maxHeartbeats 1000000 in
theorem with1_any (b : Nat) (k : ByteArray) (v : (Option Addr × Nat × Nat)) (x y p : Option Addr) (L R : List (ByteArray × (Option Addr × Nat × Nat))) (w : World) (hn : Nd w b k v x y) (hl : TL w (.pointer x) L) (hr : TL w (.pointer p) R) (low : Low (L.length + 1 + R.length)) :
    Calls Tryz.prog 73 #[.pointer (some ⟨b, 0, none⟩), .int .i64 1, .pointer p] w fun e w' => ∃ b', e = .returned (.pointer (some ⟨b', 0, none⟩)) ∧ TL w' (.pointer (some ⟨b', 0, none⟩)) (L ++ (k, v) :: R) ∧ Calm w w' := by
  have BA := hide (fun (W : World) (h : Calm w W) => balanced_any b k v x y x p L R W (hn.calm h) (hl.calm h) (hr.calm h) low)
  obtain ⟨n, hb⟩ := hn
  obtain ⟨-, -, -, c3, c4⟩ := cells5 hb
  clear hl hr low hb
  go_enter Tryz.func73, Tryz.ntmps73
  go_wp2_with fail
  refine (pair1_any _ _ _).mono ?_
  rintro e w2 ⟨rfl, t2⟩
  go_wp2_with fail
  refine (BA.out _ t2).mono ?_
  rintro e w3 ⟨b3, rfl, tl3, t3⟩
  go_wp2_with fail
  go_ret
  exact ⟨_, rfl, tl3, t2.tr t3⟩


end Go.Proofs.YtamfcmmhmfhhkaaGreatDoor.LM

namespace Go.Proofs.YtamfcmmhmfhhkaaGreatDoor

section
variable {K V : Type}

/-- What is ahead of a key of which f tells how it compares with others. -/
def up (f : K → Int) (X : List (K × V)) : List (K × V) := X.filter fun a => decide (0 < f a.1)
/-- What is behind it. -/
def dn (f : K → Int) (X : List (K × V)) : List (K × V) := X.filter fun a => decide (f a.1 < 0)
/-- It, as it is there. -/
def it (f : K → Int) (X : List (K × V)) : Option (K × V) := X.find? fun a => decide (f a.1 = 0)

/-- The key put. -/
def lput (f : K → Int) (k : K) (v : V) (X : List (K × V)) : List (K × V) := up f X ++ (match it f X with | none => k | some a => a.1, v) :: dn f X
/-- The key taken away. -/
def ldrop (f : K → Int) (X : List (K × V)) : List (K × V) := up f X ++ dn f X

/-- In the order of f: first what is ahead, then at most one, then what is behind. -/
def Dec (f : K → Int) (X : List (K × V)) : Prop := X.Pairwise fun a b => f a.1 ≤ 0 → f b.1 < 0

theorem Dec.parts {f : K → Int} {L R : List (K × V)} {x : K × V} (h : Dec f (L ++ x :: R)) : Dec f L ∧ Dec f R ∧ (∀ a ∈ L, f a.1 ≤ 0 → f x.1 < 0) ∧ (f x.1 ≤ 0 → ∀ b ∈ R, f b.1 < 0) := by
  unfold Dec at *
  rw [List.pairwise_append, List.pairwise_cons] at h
  exact ⟨h.1, h.2.1.2, fun a ha => h.2.2 a ha x (by simp), fun hx b hb => h.2.1.1 b hb hx⟩

theorem up_all {f : K → Int} {L : List (K × V)} (h : ∀ a ∈ L, 0 < f a.1) : up f L = L ∧ dn f L = [] ∧ it f L = none := by
  refine ⟨List.filter_eq_self.2 fun a ha => decide_eq_true (h a ha), List.filter_eq_nil_iff.2 fun a ha => ?_, List.find?_eq_none.2 fun a ha => ?_⟩
  · have := h a ha; simp; omega
  · have := h a ha; simp; omega

theorem dn_all {f : K → Int} {L : List (K × V)} (h : ∀ a ∈ L, f a.1 < 0) : up f L = [] ∧ dn f L = L ∧ it f L = none := by
  refine ⟨List.filter_eq_nil_iff.2 fun a ha => ?_, List.filter_eq_self.2 fun a ha => decide_eq_true (h a ha), List.find?_eq_none.2 fun a ha => ?_⟩
  · have := h a ha; simp; omega
  · have := h a ha; simp; omega

theorem Dec.left {f : K → Int} {L R : List (K × V)} {x : K × V} (h : Dec f (L ++ x :: R)) (hx : 0 ≤ f x.1) : ∀ a ∈ L, 0 < f a.1 := fun a ha => by
  have := h.parts.2.2.1 a ha
  omega

theorem Dec.right {f : K → Int} {L R : List (K × V)} {x : K × V} (h : Dec f (L ++ x :: R)) (hx : f x.1 ≤ 0) : ∀ a ∈ R, f a.1 < 0 := h.parts.2.2.2 hx

theorem up_app (f : K → Int) (L R : List (K × V)) : up f (L ++ R) = up f L ++ up f R := List.filter_append ..
theorem dn_app (f : K → Int) (L R : List (K × V)) : dn f (L ++ R) = dn f L ++ dn f R := List.filter_append ..
theorem it_app (f : K → Int) (L R : List (K × V)) : it f (L ++ R) = (it f L).or (it f R) := List.find?_append ..

theorem up_cons (f : K → Int) (x : K × V) (R : List (K × V)) : up f (x :: R) = if 0 < f x.1 then x :: up f R else up f R := by
  unfold up; rw [List.filter_cons]; simp
theorem dn_cons (f : K → Int) (x : K × V) (R : List (K × V)) : dn f (x :: R) = if f x.1 < 0 then x :: dn f R else dn f R := by
  unfold dn; rw [List.filter_cons]; simp
theorem it_cons (f : K → Int) (x : K × V) (R : List (K × V)) : it f (x :: R) = if f x.1 = 0 then some x else it f R := by
  unfold it; rw [List.find?_cons]; by_cases h : f x.1 = 0 <;> simp [h]

/-- The key stands behind x. -/
theorem pos_way {f : K → Int} {L R : List (K × V)} {x : K × V} (h : Dec f (L ++ x :: R)) (hx : 0 < f x.1) : up f (L ++ x :: R) = L ++ x :: up f R ∧ dn f (L ++ x :: R) = dn f R ∧ it f (L ++ x :: R) = it f R := by
  obtain ⟨a, b, c⟩ := up_all (h.left (by omega))
  rw [up_app, dn_app, it_app, a, b, c, up_cons, dn_cons, it_cons, if_pos hx, if_neg (by omega), if_neg (by omega)]
  exact ⟨rfl, rfl, rfl⟩

/-- The key stands ahead of x. -/
theorem neg_way {f : K → Int} {L R : List (K × V)} {x : K × V} (h : Dec f (L ++ x :: R)) (hx : f x.1 < 0) : up f (L ++ x :: R) = up f L ∧ dn f (L ++ x :: R) = dn f L ++ x :: R ∧ it f (L ++ x :: R) = it f L := by
  obtain ⟨a, b, c⟩ := dn_all (h.right (by omega))
  rw [up_app, dn_app, it_app, up_cons, dn_cons, it_cons, if_pos hx, if_neg (by omega), if_neg (by omega), a, b, c]
  simp

/-- The key is x's. -/
theorem at_way {f : K → Int} {L R : List (K × V)} {x : K × V} (h : Dec f (L ++ x :: R)) (hx : f x.1 = 0) : up f (L ++ x :: R) = L ∧ dn f (L ++ x :: R) = R ∧ it f (L ++ x :: R) = some x := by
  obtain ⟨a, b, c⟩ := up_all (h.left (by omega))
  obtain ⟨a', b', c'⟩ := dn_all (h.right (by omega))
  rw [up_app, dn_app, it_app, up_cons, dn_cons, it_cons, if_neg (by omega), if_neg (by omega), if_pos hx, a, b, c, a', b']
  simp

theorem lput_pos {f : K → Int} {k : K} {v : V} {L R : List (K × V)} {x : K × V} (h : Dec f (L ++ x :: R)) (hx : 0 < f x.1) : lput f k v (L ++ x :: R) = L ++ x :: lput f k v R := by
  obtain ⟨a, b, c⟩ := pos_way h hx
  unfold lput; rw [a, b, c]; simp
theorem lput_neg {f : K → Int} {k : K} {v : V} {L R : List (K × V)} {x : K × V} (h : Dec f (L ++ x :: R)) (hx : f x.1 < 0) : lput f k v (L ++ x :: R) = lput f k v L ++ x :: R := by
  obtain ⟨a, b, c⟩ := neg_way h hx
  unfold lput; rw [a, b, c]; simp
theorem lput_at {f : K → Int} {k : K} {v : V} {L R : List (K × V)} {x : K × V} (h : Dec f (L ++ x :: R)) (hx : f x.1 = 0) : lput f k v (L ++ x :: R) = L ++ (x.1, v) :: R := by
  obtain ⟨a, b, c⟩ := at_way h hx
  unfold lput; rw [a, b, c]
theorem ldrop_pos {f : K → Int} {L R : List (K × V)} {x : K × V} (h : Dec f (L ++ x :: R)) (hx : 0 < f x.1) : ldrop f (L ++ x :: R) = L ++ x :: ldrop f R := by
  obtain ⟨a, b, c⟩ := pos_way h hx
  unfold ldrop; rw [a, b]; simp
theorem ldrop_neg {f : K → Int} {L R : List (K × V)} {x : K × V} (h : Dec f (L ++ x :: R)) (hx : f x.1 < 0) : ldrop f (L ++ x :: R) = ldrop f L ++ x :: R := by
  obtain ⟨a, b, c⟩ := neg_way h hx
  unfold ldrop; rw [a, b]; simp
theorem ldrop_at {f : K → Int} {L R : List (K × V)} {x : K × V} (h : Dec f (L ++ x :: R)) (hx : f x.1 = 0) : ldrop f (L ++ x :: R) = L ++ R := by
  obtain ⟨a, b, c⟩ := at_way h hx
  unfold ldrop; rw [a, b]

theorem Dec.split {f : K → Int} : ∀ {X : List (K × V)}, Dec f X → X = up f X ++ (it f X).toList ++ dn f X := by
  intro X
  induction X with
  | nil => intro _; rfl
  | cons x R ih =>
    intro h
    have h' : Dec f ([] ++ x :: R) := h
    rcases Int.lt_trichotomy (f x.1) 0 with hx | hx | hx
    · obtain ⟨a, b, c⟩ := neg_way h' hx
      simp only [List.nil_append] at a b c
      rw [a, b, c]; rfl
    · obtain ⟨a, b, c⟩ := at_way h' hx
      simp only [List.nil_append] at a b c
      rw [a, b, c]; rfl
    · obtain ⟨a, b, c⟩ := pos_way h' hx
      simp only [List.nil_append] at a b c
      rw [a, b, c]
      simpa using ih h'.parts.2.1

theorem ldrop_none {f : K → Int} {X : List (K × V)} (h : Dec f X) (hn : it f X = none) : ldrop f X = X := by
  have := h.split
  rw [hn] at this
  unfold ldrop
  simpa using this.symm

theorem lput_len {f : K → Int} {k : K} {v : V} {X : List (K × V)} (h : Dec f X) : (lput f k v X).length ≤ X.length + 1 ∧ X.length ≤ (lput f k v X).length := by
  have := congrArg List.length h.split
  unfold lput
  simp only [List.length_append, List.length_cons] at *
  cases hi : it f X with
  | none => simp [hi] at this ⊢; omega
  | some a => simp [hi] at this ⊢; omega

theorem ldrop_len {f : K → Int} {X : List (K × V)} (h : Dec f X) : (ldrop f X).length ≤ X.length ∧ X.length ≤ (ldrop f X).length + 1 := by
  have := congrArg List.length h.split
  unfold ldrop
  simp only [List.length_append] at *
  cases hi : it f X with
  | none => simp [hi] at this ⊢; omega
  | some a => simp [hi] at this ⊢; omega
end

end Go.Proofs.YtamfcmmhmfhhkaaGreatDoor

namespace Go.Proofs.YtamfcmmhmfhhkaaGreatDoor
open Go.RowKit

/-- The side on which a key stands. -/
def sd (c : Int) : Int := if c < 0 then 0 else 1

theorem sd_or (c : Int) : sd c = 0 ∨ sd c = 1 := by unfold sd; split <;> simp

set_option maxRecDepth 100000 in
theorem sideOf_any (c : Int) (w : World) : Calls Tryz.prog 46 #[.int .i64 c] w fun e w' => e = .returned (.int .i64 (sd c)) ∧ w' = w := by
  unfold sd
  by_cases h : c < 0
  · go_enter Tryz.func46, Tryz.ntmps46
    go_wp2_with fail
    go_ret
    exact ⟨by simp, rfl⟩
  · go_enter Tryz.func46, Tryz.ntmps46
    go_wp2_with fail
    go_ret
    exact ⟨by simp, rfl⟩

end Go.Proofs.YtamfcmmhmfhhkaaGreatDoor

namespace Go.Proofs.YtamfcmmhmfhhkaaGreatDoor.LM
open Go.RowKit

/-- A function that compares, with what it holds. -/
structure Cmp (f : Nat) (lb : Array Value) (c : ByteArray → ByteArray → Int) (X : World → Prop) : Prop where
  enter : ∀ args w, (callFunc f args).run Tryz.prog w = .ok (.enter f args) w
  calls : ∀ a b w, X w → Calls Tryz.prog f (#[.string a, .string b] ++ lb) w fun e w' => e = .returned (.int .i64 (c a b)) ∧ w' = w
  calm : ∀ w w', X w → Calm w w' → X w'

/-- A map's own cells. -/
def Mp (w : World) (m : Nat) (f : Nat) (lb : Array Value) (r : Option Addr) : Prop := w.heap[m]? = some (.cells #[.func (.func f) #[] lb, .pointer r] 82 (0, 0))

/-- The value that was there. -/
def was (f : ByteArray → Int) (X : List (ByteArray × (Option Addr × Nat × Nat))) : (Option Addr × Nat × Nat) := ((it f X).map (·.2)).getD ((none, 0, 0) : Option Addr × Nat × Nat)

set_option maxRecDepth 100000 in
set_option maxHeartbeats 1000000 in
theorem lay_any {f : Nat} {lb : Array Value} {c : ByteArray → ByteArray → Int} {Y : World → Prop} (hC : Cmp f lb c Y) (m : Nat) (ro : Option Addr) (key : ByteArray) (val : (Option Addr × Nat × Nat))
    {w : World} {p : Value} {X : List (ByteArray × (Option Addr × Nat × Nat))} (h : TL w p X) (hm : Mp w m f lb ro) (hY : Y w) (hd : Dec (c key) X) (low : Low (X.length + 1)) :
    ∀ w1, Calm w w1 → Calls Tryz.prog 57 #[.pointer (some ⟨m, 0, none⟩), p, .string key, .slice val.1 val.2.1 val.2.2] w1 fun e w' =>
      ∃ b', e = .returned (.tuple #[.pointer (some ⟨b', 0, none⟩), .slice (was (c key) X).1 (was (c key) X).2.1 (was (c key) X).2.2, .bool (it (c key) X).isSome]) ∧ TL w' (.pointer (some ⟨b', 0, none⟩)) (lput (c key) key val X) ∧ Calm w1 w' := by
  induction h with
  | nil =>
    intro w1 t1
    have T := hide ((Touch.refl (fun _ => False) w1).alloc (.cells #[.string key, .slice val.1 val.2.1 val.2.2, .int .i64 1, .pointer none, .pointer none] 85))
    go_enter Tryz.func57, Tryz.ntmps57
    go_wp2_with fail
    go_ret3
    exact ⟨_, rfl, .node (L := []) (R := []) (heap_alloc_last w1 _) .nil .nil, T.out⟩
  | @node b k v p q L R hb h1 h2 i1 i2 =>
  intro w1 t1
  have LOW : Hid (Low (L.length + 1 + R.length + 1)) := hide (by refine low_of low ?_; simp; omega)
  have HB := hide (t1.at hb)
  have HN : Hid (Nd w1 b k v p q) := hide ⟨_, t1.at hb⟩
  have HM := hide (t1.at hm)
  have H1 := hide (h1.calm t1)
  have H2 := hide (h2.calm t1)
  have HC := hide hC
  have HY := hide (hC.calm _ _ hY t1)
  have HD := hide hd
  have CA := hide (fun W (h : Calm w1 W) => hC.calls key k W (hC.calm _ _ HY.out h))
  have I1 := hide (fun W (h : Calm w1 W) => i1 hd.parts.1 (low_of LOW.out (by omega)) W (t1.tr h))
  have I2 := hide (fun W (h : Calm w1 W) => i2 hd.parts.2.1 (low_of LOW.out (by omega)) W (t1.tr h))
  have hsign : (c key k < 0 ∧ sd (c key k) = 0) ∨ c key k = 0 ∨ (0 < c key k ∧ sd (c key k) = 1) := by
    unfold sd
    rcases Int.lt_trichotomy (c key k) 0 with h | h | h
    · exact .inl ⟨h, if_pos h⟩
    · exact .inr (.inl h)
    · exact .inr (.inr ⟨h, if_neg (by omega)⟩)
  have hne : ∀ z : Int, z < 0 → ¬ z = 0 := fun z h => by omega
  have hne' : ∀ z : Int, 0 < z → ¬ z = 0 := fun z h => by omega
  clear i1 i2 h1 h2 hb hd low hY hm hC t1
  generalize hcz : c key k = cz at *
  have HCZ := hide hcz
  clear hcz
  go_enter Tryz.func57, Tryz.ntmps57
  go_wp2_with fail
  refine wp_region_held (S := Calm w1) (by kernel_rfl) ?_
  have hT0 : Calm w1 { w1 with drawn := w1.drawn + 1 } := (Touch.refl (fun _ => False) w1).drew
  refine wpAnyH_yield 0 24 (.pointer (some ⟨m, 0, none⟩)) rfl rfl (by kernel_rfl) (by kernel_rfl) (by kernel_rfl) (fun _ _ _ h => h) (by kernel_rfl) (fun W hW => by kernel_rfl) (by assumption) rfl rfl ?_
  simp only [Act.put, List.setIfInBounds_toArray, List.set_cons_zero, List.set_cons_succ]
  refine wpAnyH_yield 1 25 (.pointer (some ⟨m, 0, none⟩)) rfl rfl (by kernel_rfl) (by kernel_rfl) (by kernel_rfl) (fun _ _ _ h => h) (by kernel_rfl) (fun W hW => by kernel_rfl) (by assumption) rfl rfl ?_
  simp only [Act.put, List.setIfInBounds_toArray, List.set_cons_zero, List.set_cons_succ]
  refine wpAnyH_yield 2 26 (.pointer (some ⟨m, 0, none⟩)) rfl rfl (by kernel_rfl) (by kernel_rfl) (by kernel_rfl) (fun _ _ _ h => h) (by kernel_rfl) (fun W hW => by go_simp) (by assumption) rfl rfl ?_
  simp only [Act.put, List.setIfInBounds_toArray, List.set_cons_zero, List.set_cons_succ]
  refine wpAnyH_yield 3 27 (.func (.func f) #[] lb) rfl rfl (by kernel_rfl) (by kernel_rfl) (by kernel_rfl) (fun _ _ _ h => h) (by kernel_rfl) (fun W hW => by obtain ⟨c0, c1⟩ := cells2 (hW.at HM.out); go_simp) (by assumption) rfl rfl ?_
  simp only [Act.put, List.setIfInBounds_toArray, List.set_cons_zero, List.set_cons_succ]
  refine wpAnyH_yield 4 28 (.string key) rfl rfl (by kernel_rfl) (by kernel_rfl) (by kernel_rfl) (fun _ _ _ h => h) (by kernel_rfl) (fun W hW => by kernel_rfl) (by assumption) rfl rfl ?_
  simp only [Act.put, List.setIfInBounds_toArray, List.set_cons_zero, List.set_cons_succ]
  refine wpAnyH_yield 5 29 (.pointer (some ⟨b, 0, none⟩)) rfl rfl (by kernel_rfl) (by kernel_rfl) (by kernel_rfl) (fun _ _ _ h => h) (by kernel_rfl) (fun W hW => by kernel_rfl) (by assumption) rfl rfl ?_
  simp only [Act.put, List.setIfInBounds_toArray, List.set_cons_zero, List.set_cons_succ]
  refine wpAnyH_yield 6 30 (.pointer (some ⟨b, 0, none⟩)) rfl rfl (by kernel_rfl) (by kernel_rfl) (by kernel_rfl) (fun _ _ _ h => h) (by kernel_rfl) (fun W hW => by kernel_rfl) (by assumption) rfl rfl ?_
  simp only [Act.put, List.setIfInBounds_toArray, List.set_cons_zero, List.set_cons_succ]
  refine wpAnyH_yield 7 31 (.pointer (some ⟨b, 0, none⟩)) rfl rfl (by kernel_rfl) (by kernel_rfl) (by kernel_rfl) (fun _ _ _ h => h) (by kernel_rfl) (fun W hW => by go_simp) (by assumption) rfl rfl ?_
  simp only [Act.put, List.setIfInBounds_toArray, List.set_cons_zero, List.set_cons_succ]
  refine wpAnyH_yield 8 32 (.string k) rfl rfl (by kernel_rfl) (by kernel_rfl) (by kernel_rfl) (fun _ _ _ h => h) (by kernel_rfl) (fun W hW => by obtain ⟨c0, c1, c2, c3, c4⟩ := cells5 (hW.at HB.out); go_simp) (by assumption) rfl rfl ?_
  simp only [Act.put, List.setIfInBounds_toArray, List.set_cons_zero, List.set_cons_succ]
  refine wpAnyH_enter 9 33 f (#[.string key, .string k] ++ lb) rfl rfl (by kernel_rfl) (by kernel_rfl) (by have e := HC.out.enter; go_simp) ?_
  refine (CA.out _ hT0).mono ?_
  rintro r _ ⟨rfl, rfl⟩
  refine ⟨_, rfl, hT0, ?_⟩
  simp only [Act.put, List.setIfInBounds_toArray, List.set_cons_zero, List.set_cons_succ]
  refine wpAnyH_yield 10 12 (.int .i64 cz) rfl rfl (by kernel_rfl) (by kernel_rfl) (by kernel_rfl) (fun _ _ _ h => h) (by kernel_rfl) (fun W hW => by kernel_rfl) (by assumption) rfl rfl ?_
  simp only [Act.put, List.setIfInBounds_toArray, List.set_cons_zero, List.set_cons_succ]
  refine wpAnyH_done (by kernel_rfl) ?_ _
  have HB1 := hide (hT0.at HB.out)
  have N1 := hide (HN.out.calm hT0)
  have T1 := hide hT0
  have K1 := hide (H1.out.calm hT0)
  have K2 := hide (H2.out.calm hT0)
  generalize ({ w1 with drawn := w1.drawn + 1 } : World) = w2 at *
  clear hT0
  obtain ⟨-, -, -, c3, c4⟩ := cells5 HB1.out
  rcases hsign with ⟨hz, hs⟩ | hz | ⟨hz, hs⟩
  · have hz' := hne cz hz
    have SO := hide (sideOf_any cz)
    rw [hs] at SO
    have IH := I1.out w2 T1.out
    go_wp2_with fail
    refine (SO.out _).mono ?_
    rintro e w' ⟨rfl, hq⟩
    obtain rfl := hq.symm
    clear hq
    go_wp2_with fail
    refine IH.mono ?_
    rintro e w3 ⟨b3, rfl, tl3, t3⟩
    have hl3 := (lput_len (k := key) (v := val) HD.out.parts.1).1
    have WA := hide (with0_any b k v p q (some ⟨b3, 0, none⟩) _ R w3 (N1.out.calm t3) tl3 (K2.out.calm t3) (low_of LOW.out (by omega)))
    have T3 := hide t3
    clear hl3 t3 tl3 IH
    go_wp2_with fail
    refine WA.out.mono ?_
    rintro e w4 ⟨b4, rfl, tl4, t4⟩
    go_wp2_with fail
    go_ret3
    have hw := neg_way HD.out (x := (k, v)) (by show c key k < 0; rw [HCZ.out]; exact hz)
    refine ⟨b4, ?_, ?_, T1.out.tr (T3.out.tr t4)⟩
    · unfold was; rw [hw.2.2]; rfl
    · rw [lput_neg HD.out (x := (k, v)) (by show c key k < 0; rw [HCZ.out]; exact hz)]; exact tl4
  · subst hz
    have hw := hide (at_way HD.out (x := (k, v)) HCZ.out)
    have hlp := hide (lput_at (k := key) (v := val) HD.out (x := (k, v)) HCZ.out)
    clear c3 c4 I1 I2 CA
    go_wp2_with fail
    generalize hmm : L.length + 1 + R.length = mm at *
    have HMM := hide hmm
    clear hmm
    refine wp_region_held (S := Calm w2) (by kernel_rfl) ?_
    have hT0 : Calm w2 { w2 with drawn := w2.drawn + 1 } := (Touch.refl (fun _ => False) w2).drew
    refine wpAnyH_yield 0 36 (.pointer (some ⟨b, 0, none⟩)) rfl rfl (by kernel_rfl) (by kernel_rfl) (by kernel_rfl) (fun _ _ _ h => h) (by kernel_rfl) (fun W hW => by kernel_rfl) (by assumption) rfl rfl ?_
    simp only [Act.put, List.setIfInBounds_toArray, List.set_cons_zero, List.set_cons_succ]
    refine wpAnyH_yield 1 37 (.pointer (some ⟨b, 0, none⟩)) rfl rfl (by kernel_rfl) (by kernel_rfl) (by kernel_rfl) (fun _ _ _ h => h) (by kernel_rfl) (fun W hW => by kernel_rfl) (by assumption) rfl rfl ?_
    simp only [Act.put, List.setIfInBounds_toArray, List.set_cons_zero, List.set_cons_succ]
    refine wpAnyH_yield 2 38 (.pointer (some ⟨b, 0, none⟩)) rfl rfl (by kernel_rfl) (by kernel_rfl) (by kernel_rfl) (fun _ _ _ h => h) (by kernel_rfl) (fun W hW => by go_simp) (by assumption) rfl rfl ?_
    simp only [Act.put, List.setIfInBounds_toArray, List.set_cons_zero, List.set_cons_succ]
    refine wpAnyH_yield 3 39 (.string k) rfl rfl (by kernel_rfl) (by kernel_rfl) (by kernel_rfl) (fun _ _ _ h => h) (by kernel_rfl) (fun W hW => by obtain ⟨c0, c1, c2, c3, c4⟩ := cells5 (hW.at HB1.out); go_simp) (by assumption) rfl rfl ?_
    simp only [Act.put, List.setIfInBounds_toArray, List.set_cons_zero, List.set_cons_succ]
    refine wpAnyH_yield 4 40 (.slice val.1 val.2.1 val.2.2) rfl rfl (by kernel_rfl) (by kernel_rfl) (by kernel_rfl) (fun _ _ _ h => h) (by kernel_rfl) (fun W hW => by kernel_rfl) (by assumption) rfl rfl ?_
    simp only [Act.put, List.setIfInBounds_toArray, List.set_cons_zero, List.set_cons_succ]
    refine wpAnyH_yield 5 41 (.pointer (some ⟨b, 0, none⟩)) rfl rfl (by kernel_rfl) (by kernel_rfl) (by kernel_rfl) (fun _ _ _ h => h) (by kernel_rfl) (fun W hW => by kernel_rfl) (by assumption) rfl rfl ?_
    simp only [Act.put, List.setIfInBounds_toArray, List.set_cons_zero, List.set_cons_succ]
    refine wpAnyH_yield 6 42 (.pointer (some ⟨b, 0, none⟩)) rfl rfl (by kernel_rfl) (by kernel_rfl) (by kernel_rfl) (fun _ _ _ h => h) (by kernel_rfl) (fun W hW => by kernel_rfl) (by assumption) rfl rfl ?_
    simp only [Act.put, List.setIfInBounds_toArray, List.set_cons_zero, List.set_cons_succ]
    refine wpAnyH_yield 7 43 (.pointer (some ⟨b, 2, none⟩)) rfl rfl (by kernel_rfl) (by kernel_rfl) (by kernel_rfl) (fun _ _ _ h => h) (by kernel_rfl) (fun W hW => by go_simp) (by assumption) rfl rfl ?_
    simp only [Act.put, List.setIfInBounds_toArray, List.set_cons_zero, List.set_cons_succ]
    refine wpAnyH_yield 8 44 (.int .i64 (mm : Int)) rfl rfl (by kernel_rfl) (by kernel_rfl) (by kernel_rfl) (fun _ _ _ h => h) (by kernel_rfl) (fun W hW => by obtain ⟨c0, c1, c2, c3, c4⟩ := cells5 (hW.at HB1.out); go_simp) (by assumption) rfl rfl ?_
    simp only [Act.put, List.setIfInBounds_toArray, List.set_cons_zero, List.set_cons_succ]
    refine wpAnyH_yield 9 45 (.pointer (some ⟨b, 0, none⟩)) rfl rfl (by kernel_rfl) (by kernel_rfl) (by kernel_rfl) (fun _ _ _ h => h) (by kernel_rfl) (fun W hW => by kernel_rfl) (by assumption) rfl rfl ?_
    simp only [Act.put, List.setIfInBounds_toArray, List.set_cons_zero, List.set_cons_succ]
    refine wpAnyH_yield 10 46 (.pointer (some ⟨b, 0, none⟩)) rfl rfl (by kernel_rfl) (by kernel_rfl) (by kernel_rfl) (fun _ _ _ h => h) (by kernel_rfl) (fun W hW => by kernel_rfl) (by assumption) rfl rfl ?_
    simp only [Act.put, List.setIfInBounds_toArray, List.set_cons_zero, List.set_cons_succ]
    refine wpAnyH_yield 11 47 (.pointer (some ⟨b, 3, none⟩)) rfl rfl (by kernel_rfl) (by kernel_rfl) (by kernel_rfl) (fun _ _ _ h => h) (by kernel_rfl) (fun W hW => by go_simp) (by assumption) rfl rfl ?_
    simp only [Act.put, List.setIfInBounds_toArray, List.set_cons_zero, List.set_cons_succ]
    refine wpAnyH_yield 12 48 (.agg #[.pointer p, .pointer q]) rfl rfl (by kernel_rfl) (by kernel_rfl) (by kernel_rfl) (fun _ _ _ h => h) (by kernel_rfl) (fun W hW => by obtain ⟨c0, c1, c2, c3, c4⟩ := cells5 (hW.at HB1.out); go_simp) (by assumption) rfl rfl ?_
    simp only [Act.put, List.setIfInBounds_toArray, List.set_cons_zero, List.set_cons_succ]
    refine wpAnyH_yield 13 49 (.agg #[.string k, .slice val.1 val.2.1 val.2.2, .int .i64 (mm : Int), .pointer p, .pointer q]) rfl rfl (by kernel_rfl) (by kernel_rfl) (by kernel_rfl) (fun _ _ _ h => h) (by kernel_rfl) (fun W hW => by go_simp) (by assumption) rfl rfl ?_
    simp only [Act.put, List.setIfInBounds_toArray, List.set_cons_zero, List.set_cons_succ]
    refine wpAnyH_yield 15 51 (.pointer (some ⟨b, 0, none⟩)) rfl rfl (by kernel_rfl) (by kernel_rfl) (by kernel_rfl) (fun _ _ _ h => h) (by kernel_rfl) (fun W hW => by kernel_rfl) (by assumption) rfl rfl ?_
    simp only [Act.put, List.setIfInBounds_toArray, List.set_cons_zero, List.set_cons_succ]
    refine wpAnyH_yield 16 52 (.pointer (some ⟨b, 0, none⟩)) rfl rfl (by kernel_rfl) (by kernel_rfl) (by kernel_rfl) (fun _ _ _ h => h) (by kernel_rfl) (fun W hW => by kernel_rfl) (by assumption) rfl rfl ?_
    simp only [Act.put, List.setIfInBounds_toArray, List.set_cons_zero, List.set_cons_succ]
    refine wpAnyH_yield 17 53 (.pointer (some ⟨b, 1, none⟩)) rfl rfl (by kernel_rfl) (by kernel_rfl) (by kernel_rfl) (fun _ _ _ h => h) (by kernel_rfl) (fun W hW => by go_simp) (by assumption) rfl rfl ?_
    simp only [Act.put, List.setIfInBounds_toArray, List.set_cons_zero, List.set_cons_succ]
    refine wpAnyH_yield 18 54 (.slice v.1 v.2.1 v.2.2) rfl rfl (by kernel_rfl) (by kernel_rfl) (by kernel_rfl) (fun _ _ _ h => h) (by kernel_rfl) (fun W hW => by obtain ⟨c0, c1, c2, c3, c4⟩ := cells5 (hW.at HB1.out); go_simp) (by assumption) rfl rfl ?_
    simp only [Act.put, List.setIfInBounds_toArray, List.set_cons_zero, List.set_cons_succ]
    refine wpAnyH_value 14 50 (.pointer (some ⟨w2.heap.size, 0, none⟩)) (w' := w2.drew.alloc (.cells #[.string k, .slice val.1 val.2.1 val.2.2, .int .i64 (mm : Int), .pointer p, .pointer q] 85)) rfl rfl (by kernel_rfl) (by kernel_rfl) (by go_simp) (((Touch.refl (fun _ => False) w2).drew).alloc _) ?_
    simp only [Act.put, List.setIfInBounds_toArray, List.set_cons_zero, List.set_cons_succ]
    have hT2 : Calm w2 (w2.drew.alloc (.cells #[.string k, .slice val.1 val.2.1 val.2.2, .int .i64 (mm : Int), .pointer p, .pointer q] 85)) := ((Touch.refl (fun _ => False) w2).drew).alloc _
    have hN2 : (w2.drew.alloc (.cells #[.string k, .slice val.1 val.2.1 val.2.2, .int .i64 (mm : Int), .pointer p, .pointer q] 85)).heap[w2.heap.size]? = some (.cells #[.string k, .slice val.1 val.2.1 val.2.2, .int .i64 (mm : Int), .pointer p, .pointer q] 85 (0, 0)) := heap_alloc_last w2.drew _
    generalize w2.drew.alloc (.cells #[.string k, .slice val.1 val.2.1 val.2.2, .int .i64 (mm : Int), .pointer p, .pointer q] 85) = w3 at *
    refine wpAnyH_yield 19 8 (.pointer (some ⟨w2.heap.size, 0, none⟩)) rfl rfl (by kernel_rfl) (by kernel_rfl) (by kernel_rfl) (fun _ _ _ h => h) (by kernel_rfl) (fun W hW => by kernel_rfl) (by assumption) rfl rfl ?_
    simp only [Act.put, List.setIfInBounds_toArray, List.set_cons_zero, List.set_cons_succ]
    refine wpAnyH_yield 20 9 (.slice v.1 v.2.1 v.2.2) rfl rfl (by kernel_rfl) (by kernel_rfl) (by kernel_rfl) (fun _ _ _ h => h) (by kernel_rfl) (fun W hW => by kernel_rfl) (by assumption) rfl rfl ?_
    simp only [Act.put, List.setIfInBounds_toArray, List.set_cons_zero, List.set_cons_succ]
    refine wpAnyH_yield 21 10 (.bool true) rfl rfl (by kernel_rfl) (by kernel_rfl) (by kernel_rfl) (fun _ _ _ h => h) (by kernel_rfl) (fun W hW => by kernel_rfl) (by assumption) rfl rfl ?_
    simp only [Act.put, List.setIfInBounds_toArray, List.set_cons_zero, List.set_cons_succ]
    refine wpAnyH_done (by kernel_rfl) ?_ _
    go_wp2_with fail
    go_ret3
    refine ⟨w2.heap.size, ?_, ?_, T1.out.tr hT2⟩
    · unfold was; rw [hw.out.2.2]; rfl
    · rw [hlp.out]
      refine .node ?_ (K1.out.calm hT2) (K2.out.calm hT2)
      rw [HMM.out]
      exact hN2
  · have hz' := hne' cz hz
    have SO := hide (sideOf_any cz)
    rw [hs] at SO
    have IH := I2.out w2 T1.out
    go_wp2_with fail
    refine (SO.out _).mono ?_
    rintro e w' ⟨rfl, hq⟩
    obtain rfl := hq.symm
    clear hq
    go_wp2_with fail
    refine IH.mono ?_
    rintro e w3 ⟨b3, rfl, tl3, t3⟩
    have hl3 := (lput_len (k := key) (v := val) HD.out.parts.2.1).1
    have WA := hide (with1_any b k v p q (some ⟨b3, 0, none⟩) L _ w3 (N1.out.calm t3) (K1.out.calm t3) tl3 (low_of LOW.out (by omega)))
    have T3 := hide t3
    clear hl3 t3 tl3 IH
    go_wp2_with fail
    refine WA.out.mono ?_
    rintro e w4 ⟨b4, rfl, tl4, t4⟩
    go_wp2_with fail
    go_ret3
    have hw := pos_way HD.out (x := (k, v)) (by show 0 < c key k; rw [HCZ.out]; exact hz)
    refine ⟨b4, ?_, ?_, T1.out.tr (T3.out.tr t4)⟩
    · unfold was; rw [hw.2.2]; rfl
    · rw [lput_pos HD.out (x := (k, v)) (by show 0 < c key k; rw [HCZ.out]; exact hz)]; exact tl4

end Go.Proofs.YtamfcmmhmfhhkaaGreatDoor.LM
