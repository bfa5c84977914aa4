/- Appends of records to a row of one's own, up to 2*10^14 bytes. -/
import Derived.Test.YtapnjofplilefaaGreatMR
namespace Go.Proofs.YtapnjofplilefaaGreat
open Go.RowKit

namespace Rc

/-- What a row is grown to is little more than a quarter above what is asked. -/
theorem nextcap_wide {need old : Nat} (h : old < need) : Builtin.nextslicecap need old ≤ need + need / 4 + 512 := by
  unfold Builtin.nextslicecap
  split
  · omega
  · split
    · omega
    · rw [growBy_four]
      repeat' split
      all_goals omega

theorem fits_wide {need old bytes : Nat} (h : old < need) (hb : need * bytes ≤ 200000000000000) (h1 : bytes ≤ 1000) : Builtin.nextslicecap need old * bytes ≤ 281474976710656 := by
  have g : Builtin.nextslicecap need old * bytes ≤ (need + need / 4 + 512) * bytes := Nat.mul_le_mul_right _ (nextcap_wide h)
  have q : need / 4 * bytes * 4 ≤ need * bytes := by
    rw [Nat.mul_right_comm]
    exact Nat.mul_le_mul_right _ (Nat.div_mul_le_self need 4)
  have s : 512 * bytes ≤ 512000 := by omega
  rw [Nat.add_mul, Nat.add_mul] at g
  omega

variable {α : Type} {E : Enc α}

/-- A row just grown: what it held, what came behind, room. -/
theorem own_grown {e : TypeId} {w : World} {base old : Nat} {z : Value} {L M : List α} (hzs : z.cells.size = E.n) (hbase : base ≤ w.heap.size) (h63 : L.length + M.length ≤ maxLen) :
    E.Own e (w.drew.alloc (.cells ((E.flat L).toArray ++ (E.flat M).toArray ++ Builtin.zeroCells z.cells (grownCap w (L.length + M.length) old e - (L.length + M.length))) e)) base (.slice (some ⟨w.heap.size, 0, none⟩) (L ++ M).length (grownCap w (L.length + M.length) old e)) (L ++ M) := by
  have hge := grownCap_ge w (L.length + M.length) old e
  have hfl : (E.flat (L ++ M)).length = (L.length + M.length) * E.n := by rw [E.flat_len, List.length_append]
  refine ⟨by rw [E.flat_len], .inr ⟨w.heap.size, _, _, rfl, hbase, heap_alloc_new w.drew _, by rw [List.length_append]; exact hge, grownCap_le_maxLen w _ old e h63, ?_, ?_⟩⟩
  · rw [Array.size_append, Array.size_append, List.size_toArray, List.size_toArray, size_zeroCells, hzs, E.flat_len, E.flat_len, ← Nat.add_mul, ← Nat.add_mul]
    congr 1
    omega
  · rw [Array.toList_append, Array.toList_append, List.toList_toArray, List.toList_toArray, ← E.flat_append]
    exact List.take_left' (by rw [E.flat_len])

theorem Own.appw {P : Program} {t ty e : TypeId} {i : TypeInfo} {z : Value} {bytes : Nat} (ht : P.underlying t = some (.slice e)) (hi : P.info? e = some i) (hz : i.zero = some z) (hs : i.size = E.n) (hby : i.bytes = bytes) (hzs : z.cells.size = E.n)
    {w : World} {base : Nat} {v : Value} {L : List α} (hown : E.Own e w base v L) (ao : Option Addr) (c : Nat) (M : List α) (hp : E.Mem w ao M) (hc : ao = none → c = 0) (h63 : L.length + M.length ≤ maxLen) (hb : (L.length + M.length) * bytes ≤ 200000000000000) (hb1 : bytes ≤ 1000) (hbase : base ≤ w.heap.size) :
    ∃ ao' cap' w', (Builtin.append_ #[t, t] ty #[v, .slice ao M.length c]).run P w = .ok (.slice ao' (L ++ M).length cap') w' ∧ E.Own e w' base (.slice ao' (L ++ M).length cap') (L ++ M) ∧ Touch (fun g => v.ownBlock = some g) w w' ∧
      (∀ g, (Value.slice ao' (L ++ M).length cap').ownBlock = some g → v.ownBlock = some g ∨ w.heap.size ≤ g) := by
  by_cases hsm : (L.length + M.length) * bytes ≤ 140737488355328
  · exact Own.app ht hi hz hs hby hzs hown ao c M hp hc h63 hsm hbase
  cases ao with
  | none =>
    have hM : M = [] := by
      cases M with
      | nil => rfl
      | cons x M =>
        obtain ⟨b, off, e, _⟩ := hp 0 _ (List.getElem?_eq_getElem (by rw [E.flat_len]; have := E.pos; simp; omega))
        cases e
    subst hM
    obtain rfl := hc rfl
    have hr := run_append_owned_none (P := P) (w := w) base t ty e i E.n ht hi v L.length (E.flat L) hown
    obtain ⟨ao', cap', hv⟩ := own_shape hown
    refine ⟨ao', cap', w, ?_, ?_, Touch.refl _ _, ?_⟩
    · rw [List.append_nil, ← hv]; exact hr
    · rw [List.append_nil, ← hv]; exact hown
    · rw [List.append_nil, ← hv]; exact fun g hg => .inl hg
  | some a =>
    have hnews : (E.flat M).length = M.length * i.size := by rw [hs]; exact E.flat_len M
    have hlen : (L ++ M).length = L.length + M.length := List.length_append
    have h63' : L.length + M.length ≤ 9223372036854775807 := by simp only [maxLen] at h63; omega
    have T1 : ∀ (o : Obj) (S : Nat → Prop), Touch S w (w.drew.alloc o) := fun o S => ((Touch.refl S w).drew).alloc o
    have hown' := hown
    obtain ⟨q1, ⟨hv, q2⟩ | ⟨g, cap, cur, hv, q3, q4, q5, q6, q7, q8⟩⟩ := hown'
    · have hL : L = [] := List.eq_nil_of_length_eq_zero q2
      subst hL
      subst hv
      have hpos : 0 < M.length := by
        rcases Nat.eq_zero_or_pos M.length with h | h
        · exfalso; apply hsm; rw [h]; simp
        · exact h
      have hr := run_append_nil (P := P) w t ty e i z ht hi hz a M.length c (E.flat M) hnews (Mem.cells hp) hpos (by simp at h63'; omega) (by rw [hby]; simp at hb; omega)
      have hg := own_grown (E := E) (e := e) (w := w) (base := base) (old := 0) (L := []) (M := M) hzs hbase h63
      refine ⟨_, _, _, ?_, hg, T1 _ _, fun g hg' => .inr ?_⟩
      · simp only [List.length_nil, Nat.zero_add, List.nil_append]
        rw [hr]
        simp [Enc.flat]
      · simp [Value.ownBlock] at hg'; omega
    · subst hv
      by_cases hroom : L.length + M.length ≤ cap
      · have hfit : L.length * i.size + (E.flat M).length ≤ cur.size := by rw [hnews, q7, hs, ← Nat.add_mul]; exact Nat.mul_le_mul_right _ hroom
        have hr := run_append_room (P := P) w t ty e i ht hi g L.length cap cur q4 a M.length c (E.flat M) hnews (Mem.cells hp) (E.flat_one M) hroom hfit
        refine ⟨some ⟨g, 0, none⟩, cap, _, by rw [hlen]; exact hr, ⟨by rw [E.flat_len], .inr ⟨g, cap, _, rfl, q3, setRow_heap w g cur _ e _ q4, by rw [hlen]; exact hroom, q6, ?_, ?_⟩⟩, ⟨rfl, rfl, rfl, by simp, fun k _ hk => setRow_other w g k _ (fun h => hk (by rw [h]; rfl))⟩, fun d hd => .inl hd⟩
        · rw [List.size_toArray, List.length_append, List.length_append, List.length_take, List.length_drop, Array.length_toList (xs := cur), ← q7]
          rw [hs] at hfit ⊢
          rw [Nat.min_eq_left (Nat.le_trans (Nat.le_add_right _ _) hfit)]
          exact Nat.add_sub_of_le hfit
        · rw [hs, q8, List.toList_toArray, ← E.flat_append]
          exact List.take_left' (by rw [E.flat_len])
      · have hr := run_append_grow (P := P) w t ty e i z ht hi hz ⟨g, 0, none⟩ L.length cap (E.flat L) (by rw [hs]; exact E.flat_len L) (World.ownsRow.cells hown (g := g) rfl) a M.length c (E.flat M) hnews (Mem.cells hp) (by omega) (by omega) (by rw [hby]; exact fits_wide (by omega) hb hb1)
        have hg := own_grown (E := E) (e := e) (w := w) (base := base) (old := cap) (L := L) (M := M) hzs hbase h63
        refine ⟨_, _, _, by rw [hlen]; exact hr, by rw [hlen] at hg; rw [hlen]; exact hg, T1 _ _, fun d hd => .inr ?_⟩
        simp [Value.ownBlock] at hd; omega

end Rc
end Go.Proofs.YtapnjofplilefaaGreat
