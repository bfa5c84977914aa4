/- The document's list and the tree's tell the same. No memory. -/
import Derived.Test.YtegiinnhknfjjaaIRBack
namespace Go.Proofs.Ytegiinnhknfjjaa.IM
open Go.RowKit

theorem ord_pos (which a key : Int) : ordv which a key < 0 ↔ 0 < ord3 which key a := by
  unfold ord3
  rw [(ordv_ord which).anti a key]
  omega

theorem ord_zero (which a key : Int) : ordv which a key = 0 ↔ ord3 which key a = 0 := by
  unfold ord3
  rw [(ordv_ord which).anti a key]
  omega

theorem cut_at {α : Type} {X A B : List α} {n : Nat} (h : X = A ++ B) (hn : n = A.length) : X.take n = A ∧ X.drop n = B := by
  subst h hn
  simp

section
variable {which key : Int} {X : List (Int × Int)} (hX : Dec (ord3 which key) X)
include hX

theorem link_lead : lead which key X = (up (ord3 which key) X).length := by
  have hs := hX.split
  unfold lead
  have h1 : X.takeWhile (fun a => decide (ordv which a.1 key < 0)) = up (ord3 which key) X := by
    conv => lhs; rw [hs]
    rw [List.append_assoc, List.takeWhile_append_of_pos (fun a ha => by have := (up_mem.1 ha).2; simpa using (ord_pos which a.1 key).2 this)]
    have h2 : ((it (ord3 which key) X).toList ++ dn (ord3 which key) X).takeWhile (fun a => decide (ordv which a.1 key < 0)) = [] := by
      have h3 : ∀ a ∈ (it (ord3 which key) X).toList ++ dn (ord3 which key) X, ¬ ordv which a.1 key < 0 := fun a ha => by
        rw [ord_pos]
        rcases List.mem_append.1 ha with ha | ha
        · have := (it_some (Option.mem_toList.1 ha)).2; omega
        · have := (dn_mem.1 ha).2; omega
      cases hl : (it (ord3 which key) X).toList ++ dn (ord3 which key) X with
      | nil => rfl
      | cons a l => rw [List.takeWhile_cons_of_neg (by have := h3 a (by rw [hl]; simp); simpa using this)]
    rw [h2, List.append_nil]
  rw [h1]

theorem link_take : X.take (lead which key X) = up (ord3 which key) X ∧ X.drop (lead which key X) = (it (ord3 which key) X).toList ++ dn (ord3 which key) X := by
  have hs := hX.split
  rw [List.append_assoc] at hs
  exact cut_at hs (link_lead hX)

theorem link_at : X[lead which key X]? = ((it (ord3 which key) X).toList ++ dn (ord3 which key) X)[0]? := by
  rw [← (link_take hX).2, List.getElem?_drop, Nat.add_zero]

theorem link_there : thereB which key X = (it (ord3 which key) X).isSome := by
  unfold thereB
  rw [link_at hX]
  cases hi : it (ord3 which key) X with
  | some a => simpa using (ord_zero which a.1 key).2 (it_some hi).2
  | none =>
    cases hd : dn (ord3 which key) X with
    | nil => rfl
    | cons a l =>
      have h1 := (dn_mem.1 (show a ∈ dn (ord3 which key) X by rw [hd]; simp)).2
      have h2 : ¬ ordv which a.1 key = 0 := by rw [ord_zero]; omega
      simpa using h2

theorem link_val : valAt which key X = was (ord3 which key) X := by
  unfold valAt was
  rw [link_there hX, link_at hX]
  cases hi : it (ord3 which key) X with
  | some a => rfl
  | none => rfl

theorem link_drop1 (h : (it (ord3 which key) X).isSome = true) : X.drop (lead which key X + 1) = dn (ord3 which key) X := by
  rw [← List.drop_drop, (link_take hX).2]
  cases hi : it (ord3 which key) X with
  | some a => rfl
  | none => rw [hi] at h; cases h

theorem link_put (value : Int) : rput which key value X = lput (ord3 which key) key value X := by
  unfold rput lput
  rw [link_there hX]
  cases hi : it (ord3 which key) X with
  | some a =>
    rw [if_pos (show (some a).isSome = true from rfl), (link_take hX).1, link_at hX, link_drop1 hX (by rw [hi]; rfl), hi]
    simp
  | none =>
    rw [if_neg (by simp), (link_take hX).1, (link_take hX).2, hi]
    simp

theorem link_drop : rtake which key X = ldrop (ord3 which key) X := by
  unfold rtake
  rw [link_there hX]
  cases hi : it (ord3 which key) X with
  | some a => rw [if_pos (show (some a).isSome = true from rfl), (link_take hX).1, link_drop1 hX (by rw [hi]; rfl)]; rfl
  | none => rw [if_neg (by simp), ldrop_none hX hi]

theorem link_from : X.drop (lead which key X) = Kd.list (ord3 which) (.fwd key) X := by
  rw [(link_take hX).2]
  unfold Kd.list
  show _ = X.filter _
  have hs := hX.split
  conv => rhs; rw [hs]
  rw [List.filter_append, List.filter_append]
  have e1 : (up (ord3 which key) X).filter (fun a => Kd.g (ord3 which) (.fwd key) a.1) = [] := List.filter_eq_nil_iff.2 fun a ha => by have := (up_mem.1 ha).2; simp [Kd.g]; omega
  have e2 : (it (ord3 which key) X).toList.filter (fun a => Kd.g (ord3 which) (.fwd key) a.1) = (it (ord3 which key) X).toList := List.filter_eq_self.2 fun a ha => by
    have := (it_some (Option.mem_toList.1 ha)).2
    simp [Kd.g]; omega
  have e3 : (dn (ord3 which key) X).filter (fun a => Kd.g (ord3 which) (.fwd key) a.1) = dn (ord3 which key) X := List.filter_eq_self.2 fun a ha => by have := (dn_mem.1 ha).2; simp [Kd.g]; omega
  rw [e1, e2, e3]; rfl

theorem link_back : (X.take (IM.upto which key X)).reverse = Kd.list (ord3 which) (.back key) X := by
  unfold Kd.list
  show _ = X.reverse.filter _
  rw [List.filter_reverse]
  congr 1
  have hs := hX.split
  have h1 : X.take (IM.upto which key X) = up (ord3 which key) X ++ (it (ord3 which key) X).toList := by
    refine (cut_at hs ?_).1
    unfold IM.upto
    rw [link_there hX, link_lead hX, List.length_append]
    cases hi : it (ord3 which key) X <;> simp
  rw [h1]
  conv => rhs; rw [hs]
  rw [List.filter_append, List.filter_append]
  have e1 : (up (ord3 which key) X).filter (fun a => Kd.g (ord3 which) (.back key) a.1) = up (ord3 which key) X := List.filter_eq_self.2 fun a ha => by have := (up_mem.1 ha).2; simp [Kd.g]; omega
  have e2 : (it (ord3 which key) X).toList.filter (fun a => Kd.g (ord3 which) (.back key) a.1) = (it (ord3 which key) X).toList := List.filter_eq_self.2 fun a ha => by
    have := (it_some (Option.mem_toList.1 ha)).2
    simp [Kd.g]; omega
  have e3 : (dn (ord3 which key) X).filter (fun a => Kd.g (ord3 which) (.back key) a.1) = [] := List.filter_eq_nil_iff.2 fun a ha => by have := (dn_mem.1 ha).2; simp [Kd.g]; omega
  rw [e1, e2, e3]; simp
end

theorem list_all (c : Int → Int → Int) (X : List (Int × Int)) : Kd.list c .all X = X := by
  unfold Kd.list
  exact List.filter_eq_self.2 fun _ _ => rfl

end Go.Proofs.Ytegiinnhknfjjaa.IM
