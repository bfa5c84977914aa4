/- Slices of slices of bytes that came in, opened. -/
import Derived.Test.YtmmeglpglaogeaaDoorCame
import Derived.Deep.Matrix
namespace Go.Proofs.YtmmeglpglaogeaaDoor
open Go.ChangeShapes Go.WideShapes Go.ChangeAt Go.RowKit Go.Deep

theorem bulk_pos {H : Type} (d : DataW H) : 1 ≤ Rows.uptoBulk d := by
  cases d with
  | lit l => cases l <;> simp [Rows.uptoBulk]
  | nil => simp [Rows.uptoBulk]
  | ptr d => simp [Rows.uptoBulk]
  | slice e s => simp [Rows.uptoBulk]
  | agg p => simp [Rows.uptoBulk]
  | iface t d => simp [Rows.uptoBulk]
  | map e => simp [Rows.uptoBulk]
  | held h => simp [Rows.uptoBulk]

theorem bulk_len {H : Type} : ∀ (l : List (DataW H)), l.length ≤ Rows.uptoBulkAll l
  | [] => Nat.zero_le _
  | d :: r => by
    have a := bulk_pos d
    have b := bulk_len r
    simp only [Rows.uptoBulkAll, List.length_cons]; omega

theorem cellsSl : Tryd.prog.cellsOf 25 = 1 := by kernel_rfl

theorem cell_spot' {w : World} {a : Addr} {v : Value} (h : w.cell? (a.add 0) = some v) : a.spot = none := by
  obtain ⟨b, o, sp⟩ := a
  have hs : ((⟨b, o, sp⟩ : Addr).add 0) = ⟨b, o, sp⟩ := by unfold Addr.add; split <;> simp_all
  rw [hs] at h
  cases sp with
  | none => rfl
  | some x =>
    unfold World.cell? at h
    split at h <;> simp at h

/-- A slice of slices of bytes that came in. -/
theorem texts_in {H : Type} {enc : TypeId × Value → H} {W : World} {fuel base : Nat} {held : Bool} {v : Value} {x : DataW H × List MemPlace}
    (hf : DataW.trod enc Tryd.prog W base (fun _ => true) held fuel 44 [v] = some x) (hb : Rows.uptoBulk x.1 ≤ 1048576) :
    ∃ (lo : Option Addr) (lc : Nat) (ts : List Txt), v = .slice lo ts.length lc ∧ SegV W lo (ts.map Txt.val) ∧ (∀ t ∈ ts, t.Ok W) ∧ ts.length ≤ 1048576 ∧ (alls ts).length ≤ 1048576 := by
  rcases open_int_rows Tryd.underlying44 Tryd.underlying25 Tryd.underlying5 cellsSl cellsU8 hf with ⟨hcs, _⟩ | ⟨a, len, cap, A, L, C, Z, hcs, _, hl, hm, hx, hr⟩
  · injection hcs with hcs
    exact ⟨none, 0, [], hcs, ⟨fun _ => rfl, fun _ h => (nomatch h), fun _ h => (nomatch h)⟩, fun _ h => (nomatch h), by simp, by simp [alls]⟩
  · injection hcs with hcs
    have hx1 := congrArg Prod.fst hx
    simp only at hx1
    rw [hx1] at hb
    simp only [Rows.uptoBulk] at hb
    obtain ⟨f, hfdef⟩ : ∃ f : Nat → Txt, f = fun r => ⟨A r, C r, (Z r).take (L r)⟩ := ⟨_, rfl⟩
    have hbl := bulk_len ((List.range len).map fun r => intRow (H := H) .u8 (A r) (L r) (Z r))
    simp only [List.length_map, List.length_range] at hbl
    have hZ : ∀ r, r < cap → ((Z r).take (L r)).length = L r := fun r hr' => by
      obtain ⟨_, h2, _, h4, _⟩ := hr r hr'
      simp; omega
    have hspot : ∀ r, r < cap → True := fun _ _ => trivial
    have hval : ∀ r, r < cap → (f r).val = .slice (A r) (L r) (C r) := fun r hr' => by
      rw [hfdef]; unfold Txt.val; simp only; rw [hZ r hr']
    have hflat : (alls ((List.range len).map f)).length ≤ Rows.uptoBulkAll ((List.range len).map fun r => intRow (H := H) .u8 (A r) (L r) (Z r)) := by
      have key : ∀ l : List Nat, (∀ r ∈ l, r < cap) → (alls (l.map f)).length ≤ Rows.uptoBulkAll (l.map fun r => intRow (H := H) .u8 (A r) (L r) (Z r)) := by
        intro l
        induction l with
        | nil => intro _; simp [alls]
        | cons r l ih =>
          intro h
          have a := ih (fun q hq => h q (by simp [hq]))
          have hrr := h r (by simp)
          have b : (f r).xs.length ≤ Rows.uptoBulk (intRow (H := H) .u8 (A r) (L r) (Z r)) := by
            rw [hfdef]
            simp only
            obtain ⟨_, h2, _, h4, _, h6, _⟩ := hr r hrr
            cases hA : A r with
            | none =>
              have := h6 hA
              simp; omega
            | some a' =>
              unfold intRow
              simp only [Rows.uptoBulk]
              have := bulk_len (lits (H := H) .u8 ((Z r).take (L r)))
              simp only [lits, List.length_map] at this
              simp only [lits]
              omega
          simp only [alls, List.map_cons, List.flatMap_cons, List.length_append, Rows.uptoBulkAll] at *
          omega
      exact key _ (fun r hr' => by have := List.mem_range.1 hr'; omega)
    refine ⟨some a, cap, (List.range len).map f, by simpa using hcs, ⟨fun h => (nomatch h), fun b hb' hne => ?_, fun b hb' j hj => ?_⟩, fun t ht => ?_, by simp; omega, by omega⟩
    · injection hb' with hb'; subst hb'
      have hpos : 0 < len := by
        rcases Nat.eq_zero_or_pos len with h | h
        · subst h; exact absurd rfl hne
        · exact h
      have hc := (hr 0 (by omega)).1
      exact cell_spot' hc
    · injection hb' with hb'; subst hb'
      have hj' : j < len := by simpa using hj
      rw [(hr j (by omega)).1]
      simp [hval j (by omega)]
    · obtain ⟨r, hr', rfl⟩ := List.mem_map.1 ht
      have hrl : r < cap := by have := List.mem_range.1 hr'; omega
      obtain ⟨h1, h2, h3, h4, h5, h6, h7⟩ := hr r hrl
      have hall : (f r).xs.length ≤ (alls ((List.range len).map f)).length := by
        obtain ⟨p, q, e⟩ := List.append_of_mem ht
        rw [e]; simp [alls]; omega
      refine ⟨?_, fun y hy => ?_, by omega⟩
      · rw [hfdef]
        simp only
        cases hA : A r with
        | none =>
          have hz := h6 hA
          have : (Z r).take (L r) = [] := by
            have : L r = 0 := by omega
            rw [this]; rfl
          rw [this]
          exact ⟨fun _ => rfl, fun _ h => (nomatch h), fun _ h => (nomatch h)⟩
        | some a' =>
          exact seg_ints (fun i hi => (h7 a' hA).2 i (by omega))
      · rw [hfdef] at hy
        exact bounds_u8 (h5 y (List.mem_of_mem_take hy))

end Go.Proofs.YtmmeglpglaogeaaDoor
