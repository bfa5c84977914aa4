/- The pile's mathematics: holds in a heap, and the same ones by their names. No memory. The pile's holds and the document's: the same ones. A map from names to holds. The pile in memory: holds, their row, and the row's own cell. Len, Less. The pile: Swap. The pile: Push. -/
import Derived.Test.YtapnjofplilefaaGreatK1
import Derived.Maps.Own
import Derived.Maps.OwnSet
import Derived.Maps.Views
import Derived.StringKeys
import Derived.BigQuiet
import Derived.RegionTactic
import Derived.ChangeAlike
import Derived.BigRegion
namespace Go.Proofs.YtapnjofplilefaaGreat
open Go.RowKit

/-- A hold of the program's: its block, its name, its time. -/
structure Ho where
  b : Nat
  n : ByteArray
  t : Int
abbrev ho0 : Ho := ⟨0, ⟨#[]⟩, 0⟩
def hdO (v : Ho) : Hd := ⟨v.n, v.t⟩
def nh (V : List Ho) (i : Nat) : Ho := V.getD i ho0
/-- Less. -/
def lsH (a b : Ho) : Bool := if a.t = b.t then ltN a.n b.n else decide (a.t < b.t)

theorem nh_eq {V : List Ho} {i : Nat} (h : i < V.length) : nh V i = V[i] := by simp [nh, h]
theorem nh_mem {V : List Ho} {i : Nat} (h : i < V.length) : nh V i ∈ V := by rw [nh_eq h]; exact List.getElem_mem h
theorem nh_set {V : List Ho} {p : Nat} {t : Ho} (hp : p < V.length) (i : Nat) : nh (V.set p t) i = if i = p then t else nh V i := by
  simp only [nh, List.getD_eq_getElem?_getD, List.getElem?_set]
  by_cases h : p = i
  · subst h; simp [hp]
  · simp [h, Ne.symm h]
theorem mem_nh {V : List Ho} {x : Ho} : x ∈ V ↔ ∃ i, i < V.length ∧ nh V i = x := by
  constructor
  · intro h
    obtain ⟨i, hi, e⟩ := List.mem_iff_getElem.1 h
    exact ⟨i, hi, by rw [nh_eq hi]; exact e⟩
  · rintro ⟨i, hi, e⟩
    rw [← e]; exact nh_mem hi

theorem lsH_irr (a : Ho) : lsH a a = false := by unfold lsH; rw [if_pos rfl]; exact ltN_irr _
theorem ltN_asym {a b : ByteArray} (h : ltN a b = true) : ltN b a = false := by
  cases hb : ltN b a with
  | false => rfl
  | true => have := ltN_trans h hb; rw [ltN_irr] at this; cases this
theorem lsH_asym {a b : Ho} (h : lsH a b = true) : lsH b a = false := by
  unfold lsH at *
  split at h
  · rename_i e
    rw [if_pos e.symm]
    exact ltN_asym h
  · rename_i e
    rw [if_neg (fun h => e h.symm)]
    have := of_decide_eq_true h
    exact decide_eq_false (by omega)
theorem lsH_trans {a b c : Ho} (h1 : lsH a b = true) (h2 : lsH b c = true) : lsH a c = true := by
  unfold lsH at *
  split at h1
  · rename_i e1
    split at h2
    · rename_i e2
      rw [if_pos (e1.trans e2)]
      exact ltN_trans h1 h2
    · rename_i e2
      have := of_decide_eq_true h2
      rw [if_neg (by omega)]
      exact decide_eq_true (by omega)
  · rename_i e1
    have := of_decide_eq_true h1
    split at h2
    · rename_i e2
      rw [if_neg (by omega)]
      exact decide_eq_true (by omega)
    · rename_i e2
      have := of_decide_eq_true h2
      rw [if_neg (by omega)]
      exact decide_eq_true (by omega)
theorem eqN_sym {a b : ByteArray} (h : eqN a b = false) : eqN b a = false := by
  cases hb : eqN b a with
  | false => rfl
  | true => rw [eqN_iff] at hb; rw [hb, eqN_iff.2 rfl] at h; cases h
/-- Not behind. -/
theorem lsH_le {a b c : Ho} (h1 : lsH b a = false) (h2 : lsH c b = false) : lsH c a = false := by
  unfold lsH at *
  split at h1
  · rename_i e1
    split at h2
    · rename_i e2
      rw [if_pos (e2.trans e1)]
      cases hx : ltN c.n a.n with
      | false => rfl
      | true =>
        exfalso
        cases hy : eqN b.n a.n with
        | true => rw [eqN_iff] at hy; rw [hy, hx] at h2; cases h2
        | false =>
          have := ltN_trans hx (ltN_tot h1 hy)
          rw [h2] at this; cases this
    · rename_i e2
      have := of_decide_eq_false h2
      rw [if_neg (by omega)]
      exact decide_eq_false (by omega)
  · rename_i e1
    have := of_decide_eq_false h1
    split at h2
    · rename_i e2
      rw [if_neg (by omega)]
      exact decide_eq_false (by omega)
    · rename_i e2
      have := of_decide_eq_false h2
      rw [if_neg (by omega)]
      exact decide_eq_false (by omega)

/-- Two change places. -/
def swp (V : List Ho) (i j : Nat) : List Ho := (V.set i (nh V j)).set j (nh V i)
theorem swp_len (V : List Ho) (i j : Nat) : (swp V i j).length = V.length := by simp [swp]
theorem swp_nh {V : List Ho} {i j : Nat} (hi : i < V.length) (hj : j < V.length) (k : Nat) : nh (swp V i j) k = if k = j then nh V i else if k = i then nh V j else nh V k := by
  unfold swp
  rw [nh_set (by simpa using hj), nh_set hi]
theorem swp_perm {V : List Ho} {i j : Nat} (hi : i < V.length) (hj : j < V.length) : (swp V i j).Perm V := by
  unfold swp
  rw [nh_eq hi, nh_eq hj]
  exact List.set_set_perm hi hj

/-- k stands no less than the one above it, of the first n. -/
def okP (V : List Ho) (k : Nat) : Prop := lsH (nh V k) (nh V ((k - 1) / 2)) = false
def Hp (V : List Ho) (n : Nat) : Prop := ∀ k, 0 < k → k < n → okP V k
/-- Around p. -/
def Gp (V : List Ho) (n p : Nat) : Prop := ∀ c, 0 < c → c < n → (c - 1) / 2 = p → 0 < p → lsH (nh V c) (nh V ((p - 1) / 2)) = false
/-- All but p and the one above it. -/
def Up (V : List Ho) (n p : Nat) : Prop := (∀ k, 0 < k → k < n → k ≠ p → okP V k) ∧ Gp V n p
/-- All but around p. -/
def Dn (V : List Ho) (n p : Nat) : Prop := (∀ k, 0 < k → k < n → k ≠ p → (k - 1) / 2 ≠ p → okP V k) ∧ Gp V n p

theorem up_done {V : List Ho} {n p : Nat} (h : Up V n p) (hd : p = 0 ∨ okP V p) : Hp V n := fun k hk hn => by
  by_cases e : k = p
  · subst e
    rcases hd with hd | hd
    · omega
    · exact hd
  · exact h.1 k hk hn e
theorem up_step {V : List Ho} {n p : Nat} (hn : n ≤ V.length) (hp : p < n) (h0 : 0 < p) (h : Up V n p) (hl : lsH (nh V p) (nh V ((p - 1) / 2)) = true) : Up (swp V ((p - 1) / 2) p) n ((p - 1) / 2) := by
  obtain ⟨h1, h2⟩ := h
  have hq : (p - 1) / 2 < V.length := by omega
  have S := swp_nh hq (show p < V.length by omega)
  refine ⟨fun k hk hkn hne => ?_, fun c hc hcn e hq0 => ?_⟩
  · unfold okP
    rw [S, S]
    by_cases kp : k = p
    · subst kp
      rw [if_pos rfl, if_neg (by omega), if_pos rfl]
      exact lsH_asym hl
    · rw [if_neg kp, if_neg hne]
      have ok := h1 k hk hkn kp
      by_cases e1 : (k - 1) / 2 = p
      · rw [if_pos e1]
        exact h2 k hk hkn e1 h0
      · rw [if_neg e1]
        by_cases e2 : (k - 1) / 2 = (p - 1) / 2
        · rw [if_pos e2]
          unfold okP at ok
          rw [e2] at ok
          cases hx : lsH (nh V k) (nh V p) with
          | false => rfl
          | true => rw [lsH_trans hx hl] at ok; cases ok
        · rw [if_neg e2]
          exact ok
  · rw [S, S, if_neg (show ((p - 1) / 2 - 1) / 2 ≠ p by omega), if_neg (show ((p - 1) / 2 - 1) / 2 ≠ (p - 1) / 2 by omega)]
    have okq : okP V ((p - 1) / 2) := h1 _ hq0 (by omega) (by omega)
    by_cases cp : c = p
    · rw [if_pos cp]; exact okq
    · rw [if_neg cp, if_neg (by omega)]
      have okc := h1 c hc hcn cp
      unfold okP at okc okq
      rw [e] at okc
      exact lsH_le okq okc

theorem dn_step {V : List Ho} {n p c : Nat} (hn : n ≤ V.length) (hc : c < n) (hc0 : 0 < c) (e : (c - 1) / 2 = p) (h : Dn V n p) (hl : lsH (nh V c) (nh V p) = true) (hs : ∀ s, 0 < s → s < n → (s - 1) / 2 = p → s ≠ c → lsH (nh V s) (nh V c) = false) : Dn (swp V p c) n c ∧ okP (swp V p c) c := by
  obtain ⟨h1, h2⟩ := h
  have hp : p < V.length := by omega
  have S := swp_nh hp (show c < V.length by omega)
  refine ⟨⟨fun k hk hkn hne hpe => ?_, fun d hd hdn ed _ => ?_⟩, ?_⟩
  · unfold okP
    rw [S, S, if_neg hne, if_neg hpe]
    by_cases kp : k = p
    · subst kp
      rw [if_pos rfl, if_neg (by omega)]
      exact h2 c hc0 hc e hk
    · rw [if_neg kp]
      by_cases e1 : (k - 1) / 2 = p
      · rw [if_pos e1]
        exact hs k hk hkn e1 hne
      · rw [if_neg e1]
        exact h1 k hk hkn kp e1
  · rw [S, S, if_neg (by omega), if_neg (by omega), if_neg (by omega), if_pos (by omega)]
    have := h1 d hd hdn (by omega) (by omega)
    unfold okP at this
    rw [ed] at this
    exact this
  · unfold okP
    rw [S, S, if_pos rfl, if_neg (by omega), if_pos e]
    exact lsH_asym hl
theorem dn_done {V : List Ho} {n p : Nat} (h : Dn V n p) (hc : ∀ c, 0 < c → c < n → (c - 1) / 2 = p → okP V c) : Up V n p := ⟨fun k hk hn hne => by
  by_cases e : (k - 1) / 2 = p
  · exact hc k hk hn e
  · exact h.1 k hk hn hne e, h.2⟩
/-- One is changed. -/
theorem dn_set {V : List Ho} {n p : Nat} {x : Ho} (h : Hp V n) (hn : n ≤ V.length) (hp : p < n) : Dn (V.set p x) n p := by
  have S := nh_set (t := x) (show p < V.length by omega)
  refine ⟨fun k hk hkn hne hpe => ?_, fun c hc hcn e hp0 => ?_⟩
  · unfold okP
    rw [S, S, if_neg hne, if_neg hpe]
    exact h k hk hkn
  · rw [S, S, if_neg (by omega), if_neg (by omega)]
    have a := h c hc hcn
    have b := h p hp0 hp
    unfold okP at a b
    rw [e] at a
    exact lsH_le b a
/-- The last one is put in p's place. -/
theorem dn_last {V : List Ho} {n p : Nat} (h : Hp V V.length) (hn : n + 1 = V.length) (hp : p < n) : Dn (swp V p n) n p := by
  have S := swp_nh (show p < V.length by omega) (show n < V.length by omega)
  refine ⟨fun k hk hkn hne hpe => ?_, fun c hc hcn e hp0 => ?_⟩
  · unfold okP
    rw [S, S, if_neg (by omega), if_neg hne, if_neg (by omega), if_neg hpe]
    exact h k hk (by omega)
  · rw [S, S, if_neg (by omega), if_neg (by omega), if_neg (by omega), if_neg (by omega)]
    have a := h c hc (by omega)
    have b := h p hp0 (by omega)
    unfold okP at a b
    rw [e] at a
    exact lsH_le b a
theorem nh_append {V : List Ho} {x : Ho} {i : Nat} (hi : i < V.length) : nh (V ++ [x]) i = nh V i := by
  simp [nh, List.getElem?_append, hi]
theorem nh_last {V : List Ho} {x : Ho} : nh (V ++ [x]) V.length = x := by simp [nh]
/-- One more. -/
theorem up_more {V : List Ho} {x : Ho} (h : Hp V V.length) : Up (V ++ [x]) (V.length + 1) V.length := by
  refine ⟨fun k hk hkn hne => ?_, fun c hc hcn e hp0 => by omega⟩
  unfold okP
  rw [nh_append (by omega), nh_append (by omega)]
  exact h k hk (by omega)
theorem nh_take {V : List Ho} {n i : Nat} (hi : i < n) : nh (V.take n) i = nh V i := by
  simp only [nh, List.getD_eq_getElem?_getD, List.getElem?_take, hi, if_true]
theorem hp_take {V : List Ho} {n : Nat} (h : Hp V n) : Hp (V.take n) n := fun k hk hn => by
  unfold okP
  rw [nh_take hn, nh_take (by omega)]
  exact h k hk hn
/-- The first one is the least. -/
theorem hp_first {V : List Ho} {n : Nat} (h : Hp V n) : ∀ k, k < n → lsH (nh V k) (nh V 0) = false
  | 0, _ => lsH_irr _
  | k + 1, hk => by
    have h1 := hp_first h (k / 2) (by omega)
    have h2 := h (k + 1) (by omega) hk
    unfold okP at h2
    have e : (k + 1 - 1) / 2 = k / 2 := by omega
    rw [e] at h2
    exact lsH_le h1 h2

end Go.Proofs.YtapnjofplilefaaGreat

namespace Go.Proofs.YtapnjofplilefaaGreat
open Go.RowKit

structure Lk (V : List Ho) (H : List Hd) : Prop where
  srt : Srt H
  mem : ∀ y : Hd, y ∈ H ↔ ∃ v ∈ V, hdO v = y
  nd : V.Pairwise fun a b => a.n ≠ b.n

theorem Lk.perm {V V' : List Ho} {H : List Hd} (h : Lk V H) (hp : V'.Perm V) : Lk V' H :=
  ⟨h.srt, fun y => (h.mem y).trans ⟨fun ⟨v, hv, e⟩ => ⟨v, hp.mem_iff.2 hv, e⟩, fun ⟨v, hv, e⟩ => ⟨v, hp.mem_iff.1 hv, e⟩⟩, (hp.pairwise_iff (fun {_ _} h e => h e.symm)).2 h.nd⟩
theorem srt_nodup {H : List Hd} (h : Srt H) : H.Nodup := h.imp fun {a b} h e => by rw [e, ltN_irr] at h; cases h
theorem Lk.same {V : List Ho} {H : List Hd} (h : Lk V H) : (V.map hdO).Perm H := by
  refine (List.perm_ext_iff_of_nodup ?_ (srt_nodup h.srt)).2 fun y => ?_
  · rw [List.Nodup, List.pairwise_map]
    exact h.nd.imp fun {a b} h e => h (by have := congrArg Hd.n e; exact this)
  · rw [h.mem, List.mem_map]
theorem Lk.len {V : List Ho} {H : List Hd} (h : Lk V H) : V.length = H.length := by have := h.same.length_eq; simpa using this
theorem Lk.nil : Lk [] [] := ⟨List.Pairwise.nil, fun y => by simp, List.Pairwise.nil⟩
theorem Lk.inj {V : List Ho} {H : List Hd} (h : Lk V H) {i j : Nat} (hi : i < V.length) (hj : j < V.length) (e : (nh V i).n = (nh V j).n) : i = j := by
  rw [nh_eq hi, nh_eq hj] at e
  have := List.pairwise_iff_getElem.1 h.nd
  rcases Nat.lt_trichotomy i j with h1 | h1 | h1
  · exact absurd e (this i j hi hj h1)
  · exact h1
  · exact absurd e.symm (this j i hj hi h1)

theorem mem_of_has {H : List Hd} {x : ByteArray} (h : hasH H x = true) : ∃ y ∈ H, y.n = x := by
  unfold hasH at h
  rw [Bool.and_eq_true, decide_eq_true_eq] at h
  obtain ⟨g1, g2⟩ := h
  refine ⟨H.getD (plN H x) hd0, ?_, eqN_iff.1 g2⟩
  rw [List.getD_eq_getElem?_getD, List.getElem?_eq_getElem g1]
  exact List.getElem_mem g1
theorem has_iff {H : List Hd} (h : Srt H) (x : ByteArray) : hasH H x = true ↔ ∃ y ∈ H, y.n = x := ⟨mem_of_has, has_of_mem h⟩
theorem Lk.has {V : List Ho} {H : List Hd} (h : Lk V H) (x : ByteArray) : hasH H x = true ↔ ∃ i, i < V.length ∧ (nh V i).n = x := by
  rw [has_iff h.srt]
  constructor
  · rintro ⟨y, hy, e⟩
    obtain ⟨v, hv, e2⟩ := (h.mem y).1 hy
    obtain ⟨i, hi, e3⟩ := mem_nh.1 hv
    exact ⟨i, hi, by rw [e3, ← e, ← e2]; rfl⟩
  · rintro ⟨i, hi, e⟩
    exact ⟨hdO (nh V i), (h.mem _).2 ⟨_, nh_mem hi, rfl⟩, e⟩
theorem mem_free {x : ByteArray} {y : Hd} : ∀ {H : List Hd}, Srt H → (y ∈ freeH H x ↔ y ∈ H ∧ y.n ≠ x)
  | [], _ => by simp [freeH, hasH, plN]
  | h :: H, hs => by
    obtain ⟨h1, h2⟩ := List.pairwise_cons.1 hs
    by_cases hl : ltN h.n x = true
    · have ih := mem_free (x := x) (y := y) h2
      have e : freeH (h :: H) x = h :: freeH H x := by
        unfold freeH
        rw [has_cons_lt hl, pl_cons, if_pos hl]
        split <;> simp
      rw [e, List.mem_cons, List.mem_cons, ih]
      constructor
      · rintro (rfl | ⟨a, b⟩)
        · exact ⟨.inl rfl, fun e => by rw [e, ltN_irr] at hl; cases hl⟩
        · exact ⟨.inr a, b⟩
      · rintro ⟨rfl | a, b⟩
        · exact .inl rfl
        · exact .inr ⟨a, b⟩
    · by_cases hq : eqN h.n x = true
      · have e : freeH (h :: H) x = H := by
          unfold freeH hasH
          rw [pl_cons, if_neg hl]
          simp [hq]
        rw [e, List.mem_cons]
        have hx := eqN_iff.1 hq
        constructor
        · intro hm
          exact ⟨.inr hm, fun e2 => by have := h1 y hm; rw [hx, e2, ltN_irr] at this; cases this⟩
        · rintro ⟨rfl | a, b⟩
          · exact absurd hx b
          · exact a
      · have e : hasH (h :: H) x = false := by
          unfold hasH
          rw [pl_cons, if_neg hl]
          simp [hq]
        rw [free_none e]
        refine ⟨fun hm => ⟨hm, fun e2 => ?_⟩, fun hm => hm.1⟩
        have := has_of_mem hs ⟨y, hm, e2⟩
        rw [e] at this
        cases this

/-- A new name. -/
theorem Lk.more {V : List Ho} {H : List Hd} (h : Lk V H) (b : Nat) (x : ByteArray) (t : Int) (hn : hasH H x = false) : Lk (V ++ [⟨b, x, t⟩]) (holdH H x t) := by
  refine ⟨srt_hold h.srt x t, fun y => ?_, ?_⟩
  · rw [mem_hold, free_none hn, h.mem]
    constructor
    · rintro (rfl | ⟨v, hv, e⟩)
      · exact ⟨⟨b, x, t⟩, by simp, rfl⟩
      · exact ⟨v, by simp [hv], e⟩
    · rintro ⟨v, hv, e⟩
      rcases List.mem_append.1 hv with hv | hv
      · exact .inr ⟨v, hv, e⟩
      · rw [List.mem_singleton] at hv
        subst hv
        exact .inl e.symm
  · rw [List.pairwise_append]
    refine ⟨h.nd, List.pairwise_singleton _ _, fun a ha c hc e => ?_⟩
    rw [List.mem_singleton] at hc
    subst hc
    obtain ⟨i, hi, e2⟩ := mem_nh.1 ha
    have := (h.has x).2 ⟨i, hi, by rw [e2]; exact e⟩
    rw [hn] at this
    cases this
theorem nd_set {V : List Ho} {i : Nat} {y : Ho} (hi : i < V.length) (hn : V.Pairwise fun a b => a.n ≠ b.n) (e : y.n = (nh V i).n) : (V.set i y).Pairwise fun a b => a.n ≠ b.n := by
  rw [List.pairwise_iff_getElem] at *
  intro a b ha hb hab
  simp only [List.length_set] at ha hb
  have := hn a b ha hb hab
  rw [nh_eq hi] at e
  rw [List.getElem_set, List.getElem_set]
  split
  · rename_i e1
    subst e1
    rw [if_neg (by omega), e]
    exact this
  · split
    · rename_i e2
      subst e2
      rw [e]
      exact this
    · exact this
/-- A name that is there. -/
theorem Lk.anew {V : List Ho} {H : List Hd} (h : Lk V H) {i : Nat} (hi : i < V.length) (t : Int) : Lk (V.set i ⟨(nh V i).b, (nh V i).n, t⟩) (holdH H (nh V i).n t) := by
  refine ⟨srt_hold h.srt _ t, fun y => ?_, nd_set hi h.nd rfl⟩
  rw [mem_hold, mem_free h.srt, h.mem]
  constructor
  · rintro (rfl | ⟨⟨v, hv, e⟩, hne⟩)
    · exact ⟨⟨(nh V i).b, (nh V i).n, t⟩, List.mem_set hi _, rfl⟩
    · obtain ⟨j, hj, e2⟩ := mem_nh.1 hv
      refine ⟨v, mem_nh.2 ⟨j, by simpa using hj, ?_⟩, e⟩
      rw [nh_set hi, if_neg, e2]
      rintro rfl
      rw [e2] at hne
      exact hne (by rw [← e]; rfl)
  · rintro ⟨v, hv, e⟩
    obtain ⟨j, hj, e2⟩ := mem_nh.1 hv
    rw [List.length_set] at hj
    rw [nh_set hi] at e2
    split at e2
    · left; rw [← e, ← e2]; rfl
    · rename_i hne
      right
      refine ⟨⟨v, mem_nh.2 ⟨j, hj, e2⟩, e⟩, fun e3 => hne (h.inj hj hi ?_)⟩
      rw [e2, ← e3, ← e]; rfl
/-- The last one is taken away. -/
theorem Lk.less {V : List Ho} {H : List Hd} (h : Lk V H) {n : Nat} (hn : n + 1 = V.length) : Lk (V.take n) (freeH H (nh V n).n) := by
  refine ⟨srt_free h.srt _, fun y => ?_, List.Pairwise.sublist (List.take_sublist _ _) h.nd⟩
  rw [mem_free h.srt, h.mem]
  constructor
  · rintro ⟨⟨v, hv, e⟩, hne⟩
    obtain ⟨j, hj, e2⟩ := mem_nh.1 hv
    have : j ≠ n := by
      rintro rfl
      rw [e2] at hne
      exact hne (by rw [← e]; rfl)
    exact ⟨v, mem_nh.2 ⟨j, by rw [List.length_take]; omega, by rw [nh_take (by omega)]; exact e2⟩, e⟩
  · rintro ⟨v, hv, e⟩
    obtain ⟨j, hj, e2⟩ := mem_nh.1 hv
    rw [List.length_take] at hj
    rw [nh_take (by omega)] at e2
    refine ⟨⟨v, mem_nh.2 ⟨j, by omega, e2⟩, e⟩, fun e3 => ?_⟩
    have := h.inj (i := j) (j := n) (by omega) (by omega) (by rw [e2, ← e3, ← e]; rfl)
    omega

theorem best_is {b : Hd} : ∀ (H : List Hd) (a : Hd), Srt H → (∀ h ∈ H, ltN a.n h.n = true ∨ h = a) → (b = a ∨ b ∈ H) → (b.t ≤ a.t ∧ (a.t = b.t → ltN a.n b.n = false)) → (∀ h ∈ H, b.t ≤ h.t ∧ (h.t = b.t → ltN h.n b.n = false)) → H.foldl (fun b h => if h.t < b.t then h else b) a = b
  | [], a, _, _, hb, _, _ => by
    rcases hb with hb | hb
    · exact hb.symm
    · cases hb
  | h :: H, a, hs, ha, hb, hq, hm => by
    obtain ⟨h1, h2⟩ := List.pairwise_cons.1 hs
    have hh := hm h (by simp)
    rw [List.foldl_cons]
    by_cases hlt : h.t < a.t
    · rw [if_pos hlt]
      refine best_is H h h2 (fun x hx => .inl (h1 x hx)) ?_ hh (fun x hx => hm x (by simp [hx]))
      rcases hb with rfl | hb
      · omega
      · exact List.mem_cons.1 hb
    · rw [if_neg hlt]
      refine best_is H a h2 (fun x hx => ha x (by simp [hx])) ?_ hq (fun x hx => hm x (by simp [hx]))
      rcases hb with hb | hb
      · exact .inl hb
      · rcases List.mem_cons.1 hb with rfl | hb
        · left
          have e : a.t = b.t := by omega
          rcases ha b (by simp) with g | g
          · rw [hq.2 e] at g; cases g
          · exact g
        · exact .inr hb
theorem best_srt {H : List Hd} {b : Hd} (hs : Srt H) (hb : b ∈ H) (hm : ∀ h ∈ H, b.t ≤ h.t ∧ (h.t = b.t → ltN h.n b.n = false)) : bestH H = b := by
  unfold bestH
  cases H with
  | nil => cases hb
  | cons h H =>
    refine best_is (h :: H) h hs (fun x hx => ?_) (.inr hb) (hm h (by simp)) hm
    rcases List.mem_cons.1 hx with rfl | hx
    · exact .inr rfl
    · exact .inl ((List.pairwise_cons.1 hs).1 x hx)
/-- The first of the pile is the best. -/
theorem Lk.best {V : List Ho} {H : List Hd} (h : Lk V H) (hp : Hp V V.length) (h0 : 0 < V.length) : bestH H = hdO (nh V 0) := by
  refine best_srt h.srt ((h.mem _).2 ⟨_, nh_mem h0, rfl⟩) fun y hy => ?_
  obtain ⟨v, hv, e⟩ := (h.mem y).1 hy
  obtain ⟨k, hk, e2⟩ := mem_nh.1 hv
  have := hp_first hp k hk
  rw [e2] at this
  unfold lsH at this
  subst e
  show (nh V 0).t ≤ v.t ∧ (v.t = (nh V 0).t → ltN v.n (nh V 0).n = false)
  split at this
  · rename_i e
    exact ⟨by omega, fun _ => this⟩
  · rename_i e
    have := of_decide_eq_false this
    exact ⟨by omega, fun h => absurd h e⟩
theorem sorted_eq : ∀ {A B : List Hd}, Srt A → Srt B → A.Perm B → A = B := by
  intro A B ha hb hp
  exact List.Perm.eq_of_pairwise (fun a b _ _ h1 h2 => by rw [ltN_asym h1] at h2; cases h2) ha hb hp

end Go.Proofs.YtapnjofplilefaaGreat

namespace Go.Proofs.YtapnjofplilefaaGreat
open Go.RowKit Go.Maps

abbrev capX : Nat := 140737488351232
theorem keyedS : Keyed Tryz.prog 9 := string_keyed Tryz.underlying9
/-- What a name reads as, as a key. -/
def kx (x : ByteArray) : Lit := .string x.data.toList
theorem key_kx {x : ByteArray} (h : x.size ≤ capX) : keyOf Tryz.prog 9 (.string x) = some (kx x) := Go.WideMaps.keyOf_string_mk Tryz.underlying9 (Nat.le_trans h (by decide))
theorem kx_ne {a b : ByteArray} (h : a ≠ b) : kx a ≠ kx b := fun e => h (by
  unfold kx at e
  injection e with e
  exact ByteArray.ext (Array.toList_inj.1 e))
theorem kx_key {a : ByteArray} (ha : a.size ≤ capX) : WideAt.IsKeyLit (kx a) := keyedS.key (key_kx ha)

/-- How a hold's address reads. -/
def ptrE : Value → Option (DataW Unit × List MemPlace)
  | .pointer none => some (.lit (.int .i64 0), [])
  | .pointer (some ⟨b, 0, none⟩) => some (.lit (.int .i64 ((b : Int) + 1)), [])
  | _ => none
def ptV : Option Nat → Value
  | none => .pointer none
  | some b => .pointer (some ⟨b, 0, none⟩)
def ptD : Option Nat → DataW Unit
  | none => .lit (.int .i64 0)
  | some b => .lit (.int .i64 ((b : Int) + 1))
theorem ptr_of (o : Option Nat) : ptrE (ptV o) = some (ptD o, []) := by cases o <;> rfl
theorem ptr_inv {v : Value} {o : Option Nat} {ps : List MemPlace} (h : ptrE v = some (ptD o, ps)) : v = ptV o := by
  unfold ptrE at h
  split at h
  · cases o with
    | none => rfl
    | some b =>
      simp only [ptD, Option.some.injEq, Prod.mk.injEq, DataW.lit.injEq, Lit.int.injEq, true_and] at h
      omega
  · cases o with
    | none =>
      simp only [ptD, Option.some.injEq, Prod.mk.injEq, DataW.lit.injEq, Lit.int.injEq, true_and] at h
      omega
    | some b =>
      simp only [ptD, Option.some.injEq, Prod.mk.injEq, DataW.lit.injEq, Lit.int.injEq, true_and] at h
      unfold ptV
      congr 2
      rename_i b' 
      have : b' = b := by omega
      rw [this]
  · cases h

theorem zeroP (w : World) : (zeroValue 150).run Tryz.prog w = .ok (.pointer none) w := by kernel_rfl

/-- The map in memory: f tells where a name's hold lies; n entries. -/
structure Mp (w : World) (b n : Nat) (f : ByteArray → Option Nat) : Prop where
  ex : ∃ D : DataW Unit, w.ownsMap Tryz.prog 9 ptrE b n D ∧ Maps.size D = n ∧
    ∀ x, x.size ≤ capX → Maps.has D (kx x) = (f x).isSome ∧ D.atKey (kx x) (ptD none) = ptD (f x)

theorem Mp.lt {w : World} {b n : Nat} {f : ByteArray → Option Nat} (h : Mp w b n f) : b < w.heap.size := by
  obtain ⟨D, h1, _⟩ := h.ex
  exact h1.lt
theorem Mp.isMap {w : World} {b n : Nat} {f : ByteArray → Option Nat} (h : Mp w b n f) : ∃ es clock, w.heap[b]? = some (.map es clock) := by
  obtain ⟨D, ⟨es, clock, h1, _⟩, _⟩ := h.ex
  exact ⟨es, clock, h1⟩
theorem Mp.touch {S : Nat → Prop} {w w' : World} {b n : Nat} {f : ByteArray → Option Nat} (h : Mp w b n f) (ht : Touch S w w') (hb : ¬ S b) : Mp w' b n f := by
  obtain ⟨D, ⟨es, clock, h1, h2⟩, h3⟩ := h.ex
  exact ⟨D, ⟨es, clock, ht.heap h1 hb, h2⟩, h3⟩
theorem Mp.calm {w w' : World} {b n : Nat} {f : ByteArray → Option Nat} (h : Mp w b n f) (ht : Calm w w') : Mp w' b n f := h.touch ht fun h => h
theorem Mp.new (w : World) : Mp (w.alloc (.map #[] 0)) w.heap.size 0 (fun _ => none) :=
  ⟨.map [], World.ownsMap_made w _ _ _, rfl, fun _ _ => ⟨rfl, rfl⟩⟩
theorem Mp.ext {w : World} {b n n' : Nat} {f g : ByteArray → Option Nat} (h : Mp w b n f) (hn : n = n') (he : ∀ x, x.size ≤ capX → f x = g x) : Mp w b n' g := by
  obtain ⟨D, h1, h2, h3⟩ := h.ex
  subst hn
  exact ⟨D, h1, h2, fun x hx => by rw [← he x hx]; exact h3 x hx⟩
theorem own_sharpM {w : World} {b n : Nat} {D : DataW Unit} (h : w.ownsMap Tryz.prog 9 ptrE b n D) : w.ownsMap Tryz.prog 9 ptrE b (Maps.size D) D := by
  obtain ⟨es, clock, h1, h2, h3, rfl⟩ := h
  refine ⟨es, clock, h1, h2, ?_, rfl⟩
  simp [Maps.size, length_sorted]

section
variable {w : World} {b n : Nat} {f : ByteArray → Option Nat} {x : ByteArray}

set_option maxRecDepth 100000 in
theorem Mp.look (h : Mp w b n f) (g : x.size ≤ capX) : (Instr.lookup 114 (.map (some b)) (.string x) true).run Tryz.prog w = .ok (.tuple #[ptV (f x), .bool (f x).isSome]) w := by
  obtain ⟨D, h1, _, h3⟩ := h.ex
  obtain ⟨e1, e2⟩ := h3 x g
  obtain ⟨v, ps, hr, hv⟩ := h1.look_ok keyedS Tryz.underlying114 (zeroP w) (ptr_of none) (key_kx g)
  rw [e2] at hv
  rw [hr, e1, ptr_inv hv]

/-- A name more. -/
def putf (f : ByteArray → Option Nat) (x : ByteArray) (p : Nat) : ByteArray → Option Nat := fun y => if y = x then some p else f y
/-- A name less. -/
def delf (f : ByteArray → Option Nat) (x : ByteArray) : ByteArray → Option Nat := fun y => if y = x then none else f y

set_option maxRecDepth 100000 in
theorem Mp.put (h : Mp w b n f) (g : x.size ≤ capX) (p : Nat) (hn : n < maxLen) :
    ∃ w', (Instr.mapUpdate 114 (.map (some b)) (.string x) (.pointer (some ⟨p, 0, none⟩))).run Tryz.prog w = .ok () w' ∧ Mp w' b (if (f x).isSome then n else n + 1) (putf f x p) ∧ Touch (fun g => g = b) w w' := by
  obtain ⟨D, h1, h2, h3⟩ := h.ex
  obtain ⟨w', hr, h4, h5⟩ := h1.store keyedS Tryz.underlying114 hn (key_kx g) (ptr_of (some p))
  have hsz : Maps.size (D.put (kx x) (ptD (some p))) = if (f x).isSome then n else n + 1 := by
    rw [Maps.size_put (h1.tidy keyedS), (h3 x g).1, h2]
  refine ⟨w', hr, ⟨_, hsz ▸ own_sharpM h4, hsz, fun y gy => ?_⟩, (Touch.of_grownBy h5.grown).mono fun j _ hj => by injection hj with hj; exact hj.symm⟩
  by_cases e : y = x
  · subst e
    refine ⟨?_, ?_⟩
    · rw [Maps.has_put_same h1.isMap (kx_key g)]; simp [putf]
    · rw [Maps.atKey_put_same h1.isMap (kx_key g)]; simp [putf]
  · have hne := kx_ne e
    refine ⟨?_, ?_⟩
    · rw [Maps.has_put_other hne, (h3 y gy).1]; simp [putf, e]
    · rw [Maps.atKey_put_other hne, (h3 y gy).2]; simp [putf, e]

set_option maxRecDepth 100000 in
theorem Mp.del (h : Mp w b n f) (g : x.size ≤ capX) (hs : (f x).isSome = true) (ty : TypeId) :
    ∃ w', (Builtin.delete_ #[114, 9] ty #[.map (some b), .string x]).run Tryz.prog w = .ok (.tuple #[]) w' ∧ Mp w' b (n - 1) (delf f x) ∧ Touch (fun g => g = b) w w' := by
  obtain ⟨D, h1, h2, h3⟩ := h.ex
  obtain ⟨w', hr, h4, h5⟩ := h1.drop keyedS Tryz.underlying114 (key_kx g) ty
  have hsz : Maps.size (D.del (kx x)) = n - 1 := by
    have := Maps.size_del (k := kx x) (h1.tidy keyedS)
    rw [(h3 x g).1, hs, h2] at this
    simp at this
    omega
  refine ⟨w', hr, ⟨_, hsz ▸ own_sharpM h4, hsz, fun y gy => ?_⟩, (Touch.of_grownBy h5.grown).mono fun j _ hj => by injection hj with hj; exact hj.symm⟩
  by_cases e : y = x
  · subst e
    refine ⟨?_, ?_⟩
    · rw [Maps.has_del_same]; simp [delf]
    · rw [Maps.atKey_del_same]; simp [delf, ptD]
  · have hne := kx_ne e
    refine ⟨?_, ?_⟩
    · rw [Maps.has_del_other hne, (h3 y gy).1]; simp [delf, e]
    · rw [Maps.atKey_del_other hne, (h3 y gy).2]; simp [delf, e]
end

end Go.Proofs.YtapnjofplilefaaGreat

namespace Go.Proofs.YtapnjofplilefaaGreat
open Go.RowKit

/-- A row of holds' addresses. -/
def encV : Rc.Enc Ho := ⟨1, fun v => [cp v.b], fun _ => rfl, fun _ u hu => by simp at hu; rw [hu]; rfl, by decide⟩
abbrev hoc (v : Ho) (i : Nat) : Array Value := #[.string v.n, .int .i64 v.t, .int .i64 (i : Int)]
theorem ho_at {w : World} {ao : Option Addr} {V : List Ho} (h : encV.Mem w ao V) (j : Nat) (hj : j < V.length) : ∃ b off, ao = some ⟨b, off, none⟩ ∧ w.cell? ⟨b, off + j, none⟩ = some (cp (nh V j).b) := by
  obtain ⟨b, off, e, g⟩ := Rc.Mem.at h j hj
  have := g 0 _ rfl
  rw [nh_eq hj]
  exact ⟨b, off, e, by simpa [encV] using this⟩
theorem infoV : (Tryz.prog.info? 150).map (fun i => (i.zero, i.size, i.bytes)) = some (some (.pointer none), 1, 8) := by kernel_rfl

/-- The holds' own blocks. -/
structure Hs (w : World) (V : List Ho) : Prop where
  at_ : ∀ i, i < V.length → w.heap[(nh V i).b]? = some (.cells (hoc (nh V i) i) 149 (0, 0))
  inj : ∀ i j, i < V.length → j < V.length → (nh V i).b = (nh V j).b → i = j
/-- The pile at p: its row, its holds, all in the blocks G. -/
structure Pl (w : World) (p : Nat) (G : Nat → Prop) (V : List Ho) : Prop where
  ex : ∃ po pc, w.heap[p]? = some (.cells #[.slice po V.length pc] 113 (0, 0)) ∧ encV.Own 150 w 0 (.slice po V.length pc) V ∧ ∀ g, (Value.slice po V.length pc).ownBlock = some g → G g
  hs : Hs w V
  at_ : G p
  in_ : ∀ i, i < V.length → G (nh V i).b

theorem Hs.touch {w w' : World} {S : Nat → Prop} {V : List Ho} (h : Hs w V) (ht : Touch S w w') (hS : ∀ i, i < V.length → ¬ S (nh V i).b) : Hs w' V := ⟨fun i hi => ht.heap (h.at_ i hi) (hS i hi), h.inj⟩
theorem Pl.touch {w w' : World} {p : Nat} {G S : Nat → Prop} {V : List Ho} (h : Pl w p G V) (ht : Touch S w w') (hS : ∀ g, G g → ¬ S g) : Pl w' p G V := by
  obtain ⟨po, pc, h1, h2, h3⟩ := h.ex
  exact ⟨⟨po, pc, ht.heap h1 (hS p h.at_), Rc.Own.touch h2 ht (fun g hg => hS g (h3 g hg)), h3⟩, h.hs.touch ht fun i hi => hS _ (h.in_ i hi), h.at_, h.in_⟩
theorem Pl.calm {w w' : World} {p : Nat} {G : Nat → Prop} {V : List Ho} (h : Pl w p G V) (ht : Calm w w') : Pl w' p G V := h.touch ht fun _ _ h => h
theorem ho_cells {w : World} {b : Nat} {x : ByteArray} {t i : Int} {ty : TypeId} (h : w.heap[b]? = some (.cells #[.string x, .int .i64 t, .int .i64 i] ty (0, 0))) : w.cell? ⟨b, 0, none⟩ = some (.string x) ∧ w.cell? ⟨b, 1, none⟩ = some (.int .i64 t) ∧ w.cell? ⟨b, 2, none⟩ = some (.int .i64 i) := by simp [World.cell?, h]
/-- What is read of a place. -/
theorem Hs.see {w : World} {V : List Ho} {ao : Option Addr} (h : Hs w V) (hm : encV.Mem w ao V) (j : Nat) (hj : j < V.length) : ∃ b off, ao = some ⟨b, off, none⟩ ∧ w.cell? ⟨b, off + j, none⟩ = some (cp (nh V j).b) ∧ w.cell? ⟨(nh V j).b, 0, none⟩ = some (.string (nh V j).n) ∧ w.cell? ⟨(nh V j).b, 1, none⟩ = some (.int .i64 (nh V j).t) ∧ w.cell? ⟨(nh V j).b, 2, none⟩ = some (.int .i64 (j : Int)) := by
  obtain ⟨b, off, e, c⟩ := ho_at hm j hj
  exact ⟨b, off, e, c, ho_cells (h.at_ j hj)⟩

theorem plen_any (po : Option Addr) (n pc : Nat) (w : World) : Calls Tryz.prog 115 #[.slice po n pc] w fun e w' => e = .returned (.int .i64 (n : Int)) ∧ w' = w := by
  go_enter Tryz.func115, Tryz.ntmps115
  go_wp2_with fail
  go_ret
  exact ⟨rfl, rfl⟩

set_option maxRecDepth 100000 in
set_option maxHeartbeats 1000000 in
theorem pless_any (V : List Ho) (po : Option Addr) (pc : Nat) (w : World) (hm : encV.Mem w po V) (hs : Hs w V) (i j : Nat) (hi : i < V.length) (hj : j < V.length) : Calls Tryz.prog 116 #[.slice po V.length pc, .int .i64 (i : Int), .int .i64 (j : Int)] w fun e w' => e = .returned (.bool (lsH (nh V i) (nh V j))) ∧ Calm w w' := by
  obtain ⟨g, off, rfl, a1, a2, a3, -⟩ := hs.see hm i hi
  obtain ⟨g', off', e, b1, b2, b3, -⟩ := hs.see hm j hj
  injection e with e
  injection e with e1 e2
  subst e1 e2
  have zi : (i : Int) < (V.length : Int) := by omega
  have zj : (j : Int) < (V.length : Int) := by omega
  clear hm hs
  generalize V.length = n at *
  by_cases ht : (nh V i).t = (nh V j).t
  · have e : lsH (nh V i) (nh V j) = ltN (nh V i).n (nh V j).n := by unfold lsH; rw [if_pos ht]
    rw [e]
    clear e
    rw [← ht] at b3
    have LS := lss_str
    generalize nh V i = x at *
    generalize nh V j = y at *
    obtain ⟨xb, xn, xt⟩ := x
    obtain ⟨yb, yn, yt⟩ := y
    dsimp only at *
    clear ht
    have D1 : decide (¬ xt = xt) = false := by simp
    generalize hR : ltN xn yn = R
    have LR : ∀ t, binOp .lss t (.string xn) (.string yn) = pure (.bool R) := fun t => by rw [LS, hR]
    clear LS hR
    go_enter Tryz.func116, Tryz.ntmps116
    go_wp2_with fail
    go_quiet (fail)
    go_wp2_with fail
    rename_i nq0
    go_quiet (fail)
    go_wp2_with fail
    go_ret
    exact ⟨rfl, ((Touch.refl _ _).drewK _).drewK _⟩
  · have e : lsH (nh V i) (nh V j) = decide ((nh V i).t < (nh V j).t) := by unfold lsH; rw [if_neg ht]
    rw [e]
    clear e
    generalize nh V i = x at *
    generalize nh V j = y at *
    obtain ⟨xb, xn, xt⟩ := x
    obtain ⟨yb, yn, yt⟩ := y
    dsimp only at *
    go_enter Tryz.func116, Tryz.ntmps116
    go_wp2_with fail
    go_quiet (fail)
    go_wp2_with fail
    rename_i nq0
    go_quiet (fail)
    go_wp2_with fail
    go_ret
    exact ⟨rfl, ((Touch.refl _ _).drewK _).drewK _⟩

end Go.Proofs.YtapnjofplilefaaGreat

namespace Go.Proofs.YtapnjofplilefaaGreat
open Go.RowKit

theorem Rc.Own.set1 {α : Type} {E : Rc.Enc α} (hn : E.n = 1) {e : TypeId} {w : World} {base g n cap : Nat} {L : List α} (h : E.Own e w base (.slice (some ⟨g, 0, none⟩) n cap) L) (j : Nat) (hj : j < L.length) (x : α) {v0 : Value} (hx : E.cells x = [v0]) :
    E.Own e (w.setCell ⟨g, j, none⟩ v0) base (.slice (some ⟨g, 0, none⟩) n cap) (L.set j x) ∧ Touch (fun k => k = g) w (w.setCell ⟨g, j, none⟩ v0) := by
  refine ⟨?_, (Touch.refl (fun k => k = g) w).setCell (p := ⟨g, j, none⟩) (fun _ => rfl) _⟩
  have hnL : n = L.length := (Rc.Own.mem h).1
  obtain ⟨h1, ⟨hv, h2⟩ | ⟨g', cap', cur, hv, h3, h4, h5, h6, h7, h8⟩⟩ := h
  · cases hv
  · injection hv with e1 e2 e3
    injection e1 with e1
    injection e1 with e1
    subst e1 e3
    have k0 := heap_setCell_row (i := j) h4 v0
    have pf : (E.flat L).set j v0 = E.flat (L.set j x) := by
      apply List.ext_getElem?
      intro k
      by_cases hk : k < L.length
      · have a := E.flat_get (L.set j x) k (by simpa using hk) 0 (by rw [hn]; omega)
        have b := E.flat_get L k hk 0 (by rw [hn]; omega)
        rw [hn, Nat.mul_one, Nat.add_zero] at a b
        rw [a, List.getElem?_set, List.getElem_set]
        split
        · rename_i e
          subst e
          rw [hx]
          rw [if_pos (by rw [E.flat_len, hn]; omega)]
          rfl
        · exact b
      · rw [List.getElem?_eq_none (by rw [List.length_set, E.flat_len, hn]; omega), List.getElem?_eq_none (by rw [E.flat_len, List.length_set, hn]; omega)]
    refine ⟨by rw [E.flat_len], .inr ⟨g, cap, _, ?_, h3, k0, by rw [List.length_set]; exact h5, h6, by simpa using h7, ?_⟩⟩
    · rw [List.length_set, hnL]
    · rw [List.length_set, ← pf, ← h8]
      simp only [Array.toList_setIfInBounds, List.take_set]
theorem own_some {w : World} {base n c : Nat} {po : Option Addr} {V : List Ho} (h : encV.Own 150 w base (.slice po n c) V) (h0 : 0 < V.length) : ∃ g cur, po = some ⟨g, 0, none⟩ ∧ base ≤ g ∧ w.heap[g]? = some (.cells cur 150 (0, 0)) := by
  obtain ⟨h1, ⟨hv, h2⟩ | ⟨g', cap', cur, hv, h3, h4, h5, h6, h7, h8⟩⟩ := h
  · injection hv with e1 e2 e3
    have : V.length = 0 := by simpa using h2
    omega
  · injection hv with e1 e2 e3
    exact ⟨g', cur, e1, h3, h4⟩
theorem hset2 {w : World} {b : Nat} {u v x : Value} {ty : TypeId} (y : Value) (h : w.heap[b]? = some (.cells #[u, v, x] ty (0, 0))) : (w.setCell ⟨b, 2, none⟩ y).heap[b]? = some (.cells #[u, v, y] ty (0, 0)) := heap_setCell_row (i := 2) h y

/-- What two stores of pointers into the row leave. -/
theorem swap_row {w : World} {base g n c : Nat} {V : List Ho} (h : encV.Own 150 w base (.slice (some ⟨g, 0, none⟩) n c) V) (i j : Nat) (hi : i < V.length) (hj : j < V.length) : encV.Own 150 ((w.setCell ⟨g, i, none⟩ (cp (nh V j).b)).setCell ⟨g, j, none⟩ (cp (nh V i).b)) base (.slice (some ⟨g, 0, none⟩) n c) (swp V i j) ∧ Touch (fun k => k = g) w ((w.setCell ⟨g, i, none⟩ (cp (nh V j).b)).setCell ⟨g, j, none⟩ (cp (nh V i).b)) := by
  obtain ⟨o1, t1⟩ := Rc.Own.set1 rfl h i hi (nh V j) (v0 := cp (nh V j).b) rfl
  obtain ⟨o2, t2⟩ := Rc.Own.set1 rfl o1 j (by simpa using hj) (nh V i) (v0 := cp (nh V i).b) rfl
  exact ⟨o2, t1.trans t2 fun _ _ h => h⟩

theorem swp_inj {V : List Ho} {i j : Nat} (hi : i < V.length) (hj : j < V.length) (h : ∀ i j, i < V.length → j < V.length → (nh V i).b = (nh V j).b → i = j) (k l : Nat) (hk : k < (swp V i j).length) (hl : l < (swp V i j).length) (e : (nh (swp V i j) k).b = (nh (swp V i j) l).b) : k = l := by
  rw [swp_len] at hk hl
  rw [swp_nh hi hj, swp_nh hi hj] at e
  split at e <;> split at e <;> (try split at e) <;> (try split at e) <;> (try omega) <;> (first | (have := h _ _ (by assumption) (by assumption) e; omega))

set_option maxRecDepth 100000 in
set_option maxHeartbeats 1000000 in
theorem pswap_any (V : List Ho) (g pc : Nat) (w : World) (ho : encV.Own 150 w 0 (.slice (some ⟨g, 0, none⟩) V.length pc) V) (hs : Hs w V) (i j : Nat) (hi : i < V.length) (hj : j < V.length) (hij : i ≠ j) : Calls Tryz.prog 118 #[.slice (some ⟨g, 0, none⟩) V.length pc, .int .i64 (i : Int), .int .i64 (j : Int)] w fun e w' => e = .returned (.tuple #[]) ∧ encV.Own 150 w' 0 (.slice (some ⟨g, 0, none⟩) V.length pc) (swp V i j) ∧ Hs w' (swp V i j) ∧ Touch (fun k => k = g ∨ k = (nh V i).b ∨ k = (nh V j).b) w w' := by
  obtain ⟨g', cur, e, -, hg⟩ := own_some ho (by omega)
  injection e with e
  injection e with e
  subst e
  obtain ⟨g1, off1, e, a1, -, -, -⟩ := hs.see (Rc.Own.mem ho).2.1 i hi
  injection e with e
  injection e with e1 e2
  subst e1 e2
  obtain ⟨g1, off1, e, b1, -, -, -⟩ := hs.see (Rc.Own.mem ho).2.1 j hj
  injection e with e
  injection e with e1 e2
  subst e1 e2
  rw [Nat.zero_add] at a1 b1
  have ha := hs.at_ i hi
  have hb := hs.at_ j hj
  have zi : (i : Int) < (V.length : Int) := by omega
  have zj : (j : Int) < (V.length : Int) := by omega
  have fz : ∀ o, w.frozen? ⟨g, o, none⟩ = false := fun o => by simp [World.frozen?, hg]
  have f1 := fz i
  have f2 := fz j
  have R1 := hide (swap_row ho i j hi hj)
  have HA := hide ha
  have HB := hide hb
  have HS := hide hs
  have HI := hide (show i < V.length from hi)
  have HJ := hide (show j < V.length from hj)
  have hji : j ≠ i := fun e => hij e.symm
  have xg : (nh V i).b ≠ g := tags ha hg (by decide)
  have yg : (nh V j).b ≠ g := tags hb hg (by decide)
  have xy : (nh V i).b ≠ (nh V j).b := fun e => hij (hs.inj i j hi hj e)
  have HG : Hid (∀ k, k < V.length → (nh V k).b ≠ g) := hide fun k hk => tags (hs.at_ k hk) hg (by decide)
  have HIN := hide (swp_inj hi hj hs.inj)
  have HSE := hide (swp_nh hi hj)
  have HXY := hide (And.intro xg (And.intro yg xy))
  have SI : nh (swp V i j) i = nh V j := by rw [swp_nh hi hj, if_neg hij, if_pos rfl]
  have SJ : nh (swp V i j) j = nh V i := by rw [swp_nh hi hj, if_pos rfl]
  have HSI := hide (And.intro SI SJ)
  clear ho hs hg fz ha hb xg yg xy SI SJ
  generalize hx : nh V i = x at *
  generalize hy : nh V j = y at *
  generalize hn : V.length = n at *
  have HX := hide hx
  have HY := hide hy
  have HN := hide hn
  clear hx hy hn hi hj
  go_enter Tryz.func118, Tryz.ntmps118
  go_wp2_with fail
  go_region
  obtain ⟨o1, t1⟩ := R1.out
  have o2 := Rc.Own.calm o1 ((Touch.refl (fun _ => False) _).drew)
  have t2 := t1.drew
  clear o1 t1 R1 a1 b1 f1 f2
  generalize ((w.setCell ⟨g, i, none⟩ (cp y.b)).setCell ⟨g, j, none⟩ (cp x.b)).drew = w1 at *
  obtain ⟨xg, yg, xy⟩ := HXY.out
  have ha := t2.heap HA.out xg
  have hb := t2.heap HB.out yg
  obtain ⟨g1, off1, e, a1⟩ := ho_at (Rc.Own.mem o2).2.1 i (by rw [swp_len, HN.out]; exact HI.out)
  injection e with e
  injection e with e1 e2
  subst e1 e2
  obtain ⟨g1, off1, e, b1⟩ := ho_at (Rc.Own.mem o2).2.1 j (by rw [swp_len, HN.out]; exact HJ.out)
  injection e with e
  injection e with e1 e2
  subst e1 e2
  rw [Nat.zero_add, HSI.out.1] at a1
  rw [Nat.zero_add, HSI.out.2] at b1
  have f1 : w1.frozen? ⟨x.b, 2, none⟩ = false := by simp [World.frozen?, ha]
  have f2 : w1.frozen? ⟨y.b, 2, none⟩ = false := by simp [World.frozen?, hb]
  have c1 := (ho_cells ha).2.2
  have c2 := (ho_cells hb).2.2
  have h1 := hset2 (.int .i64 (i : Int)) hb
  have T3 := (Touch.refl (fun k => k = y.b) w1).setCell (p := ⟨y.b, 2, none⟩) (fun _ => rfl) (.int .i64 (i : Int))
  have h2 := T3.heap ha xy
  have h3 := hset2 (.int .i64 (j : Int)) h2
  have T4 := (Touch.refl (fun k => k = x.b) (w1.setCell ⟨y.b, 2, none⟩ (.int .i64 (i : Int)))).setCell (p := ⟨x.b, 2, none⟩) (fun _ => rfl) (.int .i64 (j : Int))
  have h4 := T4.heap h1 (fun e => xy e.symm)
  have T5 : Touch (fun k => k = x.b ∨ k = y.b) w1 ((w1.setCell ⟨y.b, 2, none⟩ (.int .i64 (i : Int))).setCell ⟨x.b, 2, none⟩ (.int .i64 (j : Int))).drew := ((T3.mono fun _ _ h => .inr h).trans (T4.mono fun _ _ h => .inl h) fun _ _ h => h).drew
  have H3 := hide h3
  have H4 := hide h4
  have H5 := hide T5
  have HO := hide o2
  have HT := hide t2
  have xy2 : y.b ≠ x.b := fun e => xy e.symm
  clear T3 T4 T5 h1 h2 h3 h4 o2 t2 ha hb
  go_wp2_with fail
  go_region
  go_end0
  refine ⟨rfl, Rc.Own.touch HO.out H5.out (fun g' hg' e => ?_), ⟨fun k hk => ?_, HIN.out⟩, Touch.trans (HT.out.mono fun _ _ h => .inl h) H5.out (fun k _ h => by rcases h with h | h <;> simp [h])⟩
  · simp only [Value.ownBlock, Option.some.injEq] at hg'
    subst hg'
    rcases e with e | e
    · exact xg e.symm
    · exact yg e.symm
  · rw [swp_len] at hk
    by_cases k1 : k = j
    · rw [k1, HSI.out.2]
      exact H3.out
    by_cases k2 : k = i
    · rw [k2, HSI.out.1]
      exact H4.out
    rw [HSE.out k, if_neg k1, if_neg k2]
    refine H5.out.heap (HT.out.heap (HS.out.at_ k hk) (HG.out k (by rw [← HN.out]; exact hk))) fun e => ?_
    rcases e with e | e
    · rw [← HX.out] at e
      exact k2 (HS.out.inj k i hk (by rw [HN.out]; exact HI.out) e)
    · rw [← HY.out] at e
      exact k1 (HS.out.inj k j hk (by rw [HN.out]; exact HJ.out) e)

end Go.Proofs.YtapnjofplilefaaGreat

namespace Go.Proofs.YtapnjofplilefaaGreat
open Go.RowKit

/-- One address more. -/
theorem ho_app1 {w : World} {base : Nat} {ao : Option Addr} {cap : Nat} {V : List Ho} (x : Ho) (h : encV.Own 150 w base (.slice ao V.length cap) V) (hs : base ≤ w.heap.size) (hn : V.length ≤ 10000000000000) :
    ∃ a2 p2 w4, (Builtin.append_ #[113, 113] 113 #[.slice ao V.length cap, .slice (some ⟨w.heap.size, 0, none⟩) 1 1]).run Tryz.prog (w.alloc (.cells #[cp x.b] 150)) = .ok (.slice a2 (V.length + 1) p2) w4 ∧
      encV.Own 150 w4 base (.slice a2 (V ++ [x]).length p2) (V ++ [x]) ∧ Touch (fun d => (Value.slice ao V.length cap).ownBlock = some d) w w4 ∧ ∀ g, (Value.slice a2 (V ++ [x]).length p2).ownBlock = some g → (Value.slice ao V.length cap).ownBlock = some g ∨ w.heap.size ≤ g := by
  obtain ⟨i0, hi, hz, hsz, hby⟩ := Rc.info_parts infoV
  have own := Rc.Own.calm h ((Touch.refl (fun _ => False) w).alloc (.cells #[cp x.b] 150))
  have hs1 := al_size w (.cells #[cp x.b] 150)
  obtain ⟨a2, p2, w4, hr, ow, t2, fr⟩ := Rc.Own.appw (E := encV) (ty := 113) Tryz.underlying113 hi hz hsz hby rfl own (some ⟨w.heap.size, 0, none⟩) 1 [x] (Rc.Mem.new w [x] 150) (fun h => (nomatch h)) (by simp; unfold maxLen; omega) (by simp; omega) (by omega) (by omega)
  have e3 : (V ++ [x]).length = V.length + 1 := by simp
  refine ⟨a2, p2, w4, by rw [← e3]; exact hr, ow, ?_, fun g hg => ?_⟩
  · exact Touch.trans (((Touch.refl (fun _ => False) w).alloc _).mono fun _ _ h => h.elim) t2 fun _ _ h => h
  · rcases fr g hg with h | h
    · exact .inl h
    · exact .inr (by omega)

set_option maxRecDepth 100000 in
set_option maxHeartbeats 1000000 in
theorem ppush_any (V : List Ho) (p : Nat) (G : Nat → Prop) (x : Ho) (k : Int) (w : World) (h : Pl w p G V) (hb : w.heap[x.b]? = some (.cells #[.string x.n, .int .i64 x.t, .int .i64 k] 149 (0, 0))) (hf : ∀ i, i < V.length → (nh V i).b ≠ x.b) (hl : V.length ≤ 10000000000000) : Calls Tryz.prog 117 #[cp p, .iface 150 (cp x.b)] w fun e w' => e = .returned (.tuple #[]) ∧ Pl w' p (fun g => G g ∨ g = x.b ∨ w.heap.size ≤ g) (V ++ [x]) ∧ Touch (fun g => G g ∨ g = x.b) w w' := by
  obtain ⟨po, pc, hp, ho, hg⟩ := h.ex
  have c0 := (one_cell hp).1
  have f0 : w.frozen? ⟨x.b, 2, none⟩ = false := by simp [World.frozen?, hb]
  have c2 := (ho_cells hb).2.2
  have TA : ∀ W : World, (Instr.typeAssert (.iface 150 (cp x.b)) 20 150 false).run Tryz.prog W = .ok (cp x.b) W := fun W => by kernel_rfl
  have np : p ≠ x.b := tags hp hb (by decide)
  have nr : ∀ g, (Value.slice po V.length pc).ownBlock = some g → g ≠ p ∧ g ≠ x.b := fun g hv => by
    obtain ⟨-, cur, hc⟩ := Rc.own_block ho hv
    exact ⟨tags hc hp (by decide), tags hc hb (by decide)⟩
  have t1 := (Touch.refl (fun k => k = x.b) w).setCell (p := ⟨x.b, 2, none⟩) (fun _ => rfl) (.int .i64 (V.length : Int))
  have h1 := hset2 (.int .i64 (V.length : Int)) hb
  have p1 := t1.heap hp np
  have o1 := Rc.Own.touch ho t1 (fun g hv e => (nr g hv).2 e)
  have s1 := h.hs.touch t1 (fun i hi e => hf i hi e)
  have c1 := (one_cell p1).1
  obtain ⟨a2, p2, w4, hr, ow, t4, fr⟩ := ho_app1 x o1 (Nat.zero_le _) hl
  have sz : (w.setCell ⟨x.b, 2, none⟩ (.int .i64 (V.length : Int))).heap.size = w.heap.size := by simp
  rw [sz] at hr fr
  rw [show (V ++ [x]).length = V.length + 1 by simp] at ow fr
  have p4 := t4.heap p1 (fun e => (nr _ e).1 rfl)
  have s4 := s1.touch t4 (fun i hi e => by
    obtain ⟨-, cur, hc⟩ := Rc.own_block o1 e
    exact tags (s1.at_ i hi) hc (by decide) rfl)
  have h4 := t4.heap h1 (fun e => (nr _ e).2 rfl)
  have c4 := (one_cell p4).1
  have f4 : w4.frozen? ⟨p, 0, none⟩ = false := by simp [World.frozen?, p4]
  have t5 := (Touch.refl (fun k => k = p) w4).setCell (p := ⟨p, 0, none⟩) (fun _ => rfl) (.slice a2 (V.length + 1) p2)
  have p5 := set_one (.slice a2 (V.length + 1) p2) p4
  have o5 := Rc.Own.touch ow t5 (fun g hv e => by
    obtain ⟨-, cur, hc⟩ := Rc.own_block ow hv
    exact tags hc p4 (by decide) e)
  have s5 := s4.touch t5 (fun i hi e => tags (s4.at_ i hi) p4 (by decide) e)
  have h5 := t5.heap h4 (fun e => np e.symm)
  have HR := hide hr
  have FIN : Hid (Pl (w4.setCell ⟨p, 0, none⟩ (.slice a2 (V.length + 1) p2)) p (fun g => G g ∨ g = x.b ∨ w.heap.size ≤ g) (V ++ [x]) ∧ Touch (fun g => G g ∨ g = x.b) w (w4.setCell ⟨p, 0, none⟩ (.slice a2 (V.length + 1) p2))) := hide (by
    refine ⟨⟨⟨a2, p2, by rw [show (V ++ [x]).length = V.length + 1 by simp]; exact p5, by rw [show (V ++ [x]).length = V.length + 1 by simp]; exact o5, fun g hg' => ?_⟩, ⟨fun i hi => ?_, fun i j hi hj e => ?_⟩, .inl h.at_, fun i hi => ?_⟩, ?_⟩
    · rw [show (V ++ [x]).length = V.length + 1 by simp] at hg'
      rcases fr g hg' with h' | h'
      · exact .inl (hg g h')
      · exact .inr (.inr h')
    · rw [List.length_append] at hi
      by_cases e : i < V.length
      · rw [nh_append e]; exact s5.at_ i e
      · have : i = V.length := by simp at hi; omega
        rw [this, nh_last]; exact h5
    · rw [List.length_append] at hi hj
      simp at hi hj
      by_cases e1 : i < V.length
      · by_cases e2 : j < V.length
        · rw [nh_append e1, nh_append e2] at e; exact h.hs.inj i j e1 e2 e
        · have : j = V.length := by omega
          rw [this, nh_last, nh_append e1] at e
          exact absurd e (hf i e1)
      · have e1' : i = V.length := by omega
        by_cases e2 : j < V.length
        · rw [e1', nh_last, nh_append e2] at e
          exact absurd e.symm (hf j e2)
        · omega
    · rw [List.length_append] at hi
      by_cases e : i < V.length
      · rw [nh_append e]; exact .inl (h.in_ i e)
      · have : i = V.length := by simp at hi; omega
        rw [this, nh_last]; exact .inr (.inl rfl)
    · have a := (t1.mono (S' := fun g => G g ∨ g = x.b) fun _ _ h => .inr h)
      have b := a.trans (t4.mono (S' := fun g => G g ∨ g = x.b) fun g _ h => .inl (hg g h)) (fun _ _ h => h)
      exact b.trans (t5.mono (S' := fun g => G g ∨ g = x.b) fun g _ e => .inl (by rw [e]; exact h.at_)) (fun _ _ h => h))
  clear ow t4 fr p4 s4 h4 t5 p5 o5 s5 h5 hr sz
  have C1 : Hid ((w.setCell ⟨x.b, 2, none⟩ (.int .i64 (V.length : Int))).cell? ⟨p, 0, none⟩ = some (.slice po V.length pc)) := hide c1
  clear t1 h1 p1 o1 s1 h hg nr hp hb ho hf c1
  generalize hn : V.length = n at *
  have HN := hide hn
  clear hn
  go_enter Tryz.func117, Tryz.ntmps117
  go_wp2_with (at_builtin; refine Rc.wpList_appR rfl (.tmp 17) (.tmp 19) 113 113 rfl _ _ _ rfl rfl HR.out ?_)
  go_end0
  exact ⟨rfl, FIN.out⟩

end Go.Proofs.YtapnjofplilefaaGreat
