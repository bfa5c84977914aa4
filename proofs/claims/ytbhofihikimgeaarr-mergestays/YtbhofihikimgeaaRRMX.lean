/- A row of sessions: rising spans, each window in order; a Join leaves one. -/
import Derived.Test.YtbhofihikimgeaaRRMV
namespace Go.Proofs.YtbhofihikimgeaaRR
open Go.RowKit

theorem apart_at {L : List Wn} (h : apartR L = true) (i : Nat) (hi : i < L.length) : okW L[i] = true ∧ ∀ k (hk : k < i), pairOk (L[k]'(by omega)) L[i] = true := by
  unfold apartR at h
  rw [List.all_eq_true] at h
  have := h i (List.mem_range.2 hi)
  unfold rowAt at this
  rw [Bool.and_eq_true, List.all_eq_true] at this
  have g : ∀ j (hj : j < L.length), L.getD j wn0 = L[j] := fun j hj => by rw [List.getD_eq_getElem?_getD, List.getElem?_eq_getElem hj]; rfl
  rw [g i hi] at this
  refine ⟨this.1, fun k hk => ?_⟩
  have := this.2 k (List.mem_range.2 hk)
  rwa [g k (by omega)] at this

theorem okW_ab {x : Wn} (h : okW x = true) : x.a < x.b := by unfold okW at h; simp only [Bool.and_eq_true, decide_eq_true_eq] at h; exact h.1

theorem apart_rise {L : List Wn} (h : apartR L = true) : Rise (L.map Wn.sp) ∧ ∀ x ∈ L, okW x = true := by
  have ok : ∀ x ∈ L, okW x = true := fun x hx => by
    obtain ⟨i, hi, rfl⟩ := List.mem_iff_getElem.1 hx
    exact (apart_at h i hi).1
  refine ⟨⟨?_, fun z hz => ?_⟩, ok⟩
  · rw [List.pairwise_map, List.pairwise_iff_getElem]
    intro i j hi hj hij
    have := (apart_at h j hj).2 i hij
    unfold pairOk at this
    simp only [Bool.and_eq_true, Bool.not_eq_true', decide_eq_true_eq] at this
    have h1 := okW_ab (ok _ (List.getElem_mem hi))
    have h2 := okW_ab (ok _ (List.getElem_mem hj))
    refine Int.not_lt.1 fun hlt => ?_
    have := (over_iff (L[i]).sp (L[j]).sp).2 ⟨h1, h2, by simp only; omega, hlt⟩
    rw [‹over (L[i]).sp (L[j]).sp = false ∧ _›.1] at this
    cases this
  · obtain ⟨x, hx, rfl⟩ := List.mem_map.1 hz
    exact okW_ab (ok x hx)

theorem rise_apart {L : List Wn} (h : Rise (L.map Wn.sp)) (ok : ∀ x ∈ L, okW x = true) : apartR L = true := by
  have g : ∀ j (hj : j < L.length), L.getD j wn0 = L[j] := fun j hj => by rw [List.getD_eq_getElem?_getD, List.getElem?_eq_getElem hj]; rfl
  refine apart_yes fun i hi => rowAt_yes (by rw [g i hi]; exact ok _ (List.getElem_mem hi)) fun k hk => ?_
  rw [g i hi, g k (by omega)]
  have hp := h.1
  rw [List.pairwise_map, List.pairwise_iff_getElem] at hp
  have h1 := hp k i (by omega) hi hk
  have h2 := okW_ab (ok _ (List.getElem_mem (show k < L.length by omega)))
  unfold pairOk
  simp only [Bool.and_eq_true, Bool.not_eq_true', decide_eq_true_eq]
  simp only at h1
  refine ⟨?_, by omega⟩
  cases ho : over (L[k]'(by omega)).sp (L[i]).sp with
  | false => rfl
  | true => obtain ⟨_, _, _, o4⟩ := (over_iff _ _).1 ho; simp only at o4; omega

/-- A Join of a row leaves a row. -/
theorem join_apart {L : List Wn} (h : apartR L = true) {s : Sp} (hs : s.a < s.b) (m hh : Int) : apartR (joinL L s m hh) = true := by
  obtain ⟨hr, ok⟩ := apart_rise h
  refine rise_apart (join_rise hr hs m hh) fun x hx => ?_
  rcases (mem_join hr hs m hh x).1 hx with e | ⟨hx, -⟩
  · have hx2 : x.a < x.b := (join_rise hr hs m hh).2 x.sp (List.mem_map.2 ⟨x, hx, rfl⟩)
    have hin := accL_in m s hh (L.filter (onW s)) (fun y hy => apart_in h y (List.mem_filter.1 hy).1) ⟨s.a, s.b, hh, tl0, 0, 0⟩ ⟨(by decide : inC 0 = true), (by decide : inC 0 = true)⟩
    have hc := joinT_count ((L.filter (onW s)).map Wn.t)
    have e1 : x.t.c = (joinT ((L.filter (onW s)).map Wn.t)).c := by rw [e]; rfl
    have e2 : x.n = ((L.filter (onW s)).foldl (accW m) ⟨s.a, s.b, hh, tl0, 0, 0⟩).n := by rw [e]; rfl
    have e3 : x.p = ((L.filter (onW s)).foldl (accW m) ⟨s.a, s.b, hh, tl0, 0, 0⟩).p := by rw [e]; rfl
    unfold okW
    rw [e1, e2, e3, hin.1, hin.2, decide_eq_true hx2]
    unfold inC
    simp
    exact hc
  · exact ok x hx

end Go.Proofs.YtbhofihikimgeaaRR
