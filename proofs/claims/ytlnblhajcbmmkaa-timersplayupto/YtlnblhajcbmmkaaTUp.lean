/- Timers that came in, of bounded bulk. -/
import Derived.Test.YtlnblhajcbmmkaaTCame
import Derived.Test.YtlnblhajcbmmkaaTRDue
import Derived.Laws.OwnMore
namespace Go.Proofs.Ytlnblhajcbmmkaa
open Go.ChangeShapes Go.WideShapes Go.ChangeAt Go.RowKit Go.Deep

theorem bulk_pos {H : Type} (d : DataW H) : 1 ≤ Rows.uptoBulk d := by
  cases d with
  | lit l => cases l <;> simp [Rows.uptoBulk]
  | nil => simp [Rows.uptoBulk]
  | ptr d => simp [Rows.uptoBulk]
  | slice e s => simp [Rows.uptoBulk]
  | agg p => simp [Rows.uptoBulk]
  | iface t d => simp [Rows.uptoBulk]
  | map e => simp [Rows.uptoBulk]
  | held h => simp [Rows.uptoBulk]

theorem bulk_len {H : Type} : ∀ (l : List (DataW H)), l.length ≤ Rows.uptoBulkAll l
  | [] => by simp
  | d :: r => by
    have := bulk_pos d
    have := bulk_len r
    simp only [Rows.uptoBulkAll, List.length_cons]; omega

theorem bulk_mem {H : Type} : ∀ (l : List (DataW H)) (d : DataW H), d ∈ l → Rows.uptoBulk d ≤ Rows.uptoBulkAll l
  | [], d, h => by cases h
  | e :: r, d, h => by
    simp only [Rows.uptoBulkAll]
    rcases List.mem_cons.1 h with rfl | h
    · omega
    · have := bulk_mem r d h; omega

theorem cellsTimer : Try.prog.cellsOf 35 = 4 := by kernel_rfl

theorem spot_none {w : World} {a : Addr} {v : Value} (h : w.cell? (a.add 0) = some v) : a.spot = none := by
  obtain ⟨b, o, sp⟩ := a
  have hs : ((⟨b, o, sp⟩ : Addr).add 0) = ⟨b, o, sp⟩ := by unfold Addr.add; split <;> simp_all
  rw [hs] at h
  cases sp with
  | none => rfl
  | some x =>
    unfold World.cell? at h
    split at h <;> simp at h

/-- A timer of bounded bulk. -/
theorem good_up {H : Type} {t : Tm} {d : DataW H} (h1 : (Lit.int .i64 t.at_).wf = true) (h2 : (Lit.int .i64 t.start).wf = true) (h3 : (Lit.int .i64 t.stop).wf = true)
    (hd : d = .agg [.lit (.int .i64 t.at_), .lit (.string t.key.data.toList), .agg [.lit (.int .i64 t.start), .lit (.int .i64 t.stop)]]) (hb : Rows.uptoBulk d ≤ 1048576) : Good t := by
  refine ⟨h1, ?_, h2, h3⟩
  rw [hd] at hb
  simp [Rows.uptoBulk, Rows.uptoBulkAll] at hb
  have e : t.key.size = t.key.data.size := rfl
  omega

set_option maxRecDepth 100000 in
theorem timers_up {H : Type} {enc : TypeId × Value → H} {W : World} {fuel base : Nat} {spare : Nat → Bool} {held : Bool} {v : Value} {x : DataW H × List MemPlace}
    (hf : DataW.trod enc Try.prog W base spare held fuel 22 [v] = some x) (hb : Rows.uptoBulk x.1 ≤ 1048576) :
    ∃ ao cap l, v = .slice ao l.length cap ∧ Tms W ao l ∧ (ao = none → cap = 0) ∧ (∀ t ∈ l, Good t) ∧ l.length ≤ 1048576 := by
  rcases Go.Deep.open_slice Try.underlying22 hf with ⟨hcs, _⟩ | ⟨a, len, cap, m, n, D, Pl, hcs, _, hl, _, hmm, hx, hel⟩
  · injection hcs with hcs
    exact ⟨none, 0, [], hcs, Tms.nil _ _, fun _ => rfl, fun t ht => (nomatch ht), by simp⟩
  · injection hcs with hcs
    have hlm : len ≤ m := by rw [hmm]; split <;> omega
    subst hx
    simp only [Rows.uptoBulk] at hb
    have hlen : len ≤ 1048576 := by
      have := bulk_len ((List.range len).map D)
      simp only [List.length_map, List.length_range] at this
      omega
    have each : ∀ i, ∃ t : Tm, i < len → (W.cell? (a.add (i * 4)) = some (.int .i64 t.at_) ∧ W.cell? (a.add (i * 4 + 1)) = some (.string t.key) ∧ W.cell? (a.add (i * 4 + 2)) = some (.int .i64 t.start) ∧ W.cell? (a.add (i * 4 + 3)) = some (.int .i64 t.stop)) ∧ Good t := fun i => by
      by_cases hi : i < len
      · obtain ⟨cs', h1, h2⟩ := hel i (by omega)
        rw [cellsTimer] at h1
        obtain ⟨_, hlc, hcell⟩ := World.cells?_some h1
        obtain ⟨t, et, k1, k2, k3, -, k5⟩ := timer_in h2
        subst et
        have e0 := hcell 0 (by omega)
        have e1 := hcell 1 (by omega)
        have e2 := hcell 2 (by omega)
        have e3 := hcell 3 (by omega)
        rw [Go.Deep.add_add] at e0 e1 e2 e3
        simp at e0 e1 e2 e3
        refine ⟨t, fun _ => ⟨⟨e0, e1, e2, e3⟩, good_up k1 k2 k3 k5 ?_⟩⟩
        have h9 := bulk_mem ((List.range len).map D) (D i) (List.mem_map.2 ⟨i, List.mem_range.2 hi, rfl⟩)
        show Rows.uptoBulk (D i) ≤ _
        omega
      · exact ⟨⟨0, { data := #[] }, 0, 0⟩, fun h => absurd h hi⟩
    obtain ⟨f, hf'⟩ := Classical.axiomOfChoice each
    refine ⟨some a, cap, (List.range len).map f, by simpa using hcs, fun j hj => ?_, fun h => (nomatch h), fun t ht => ?_, by simpa using hlen⟩
    · have hj' : j < len := by simpa using hj
      have h0 := (hf' 0 (by omega)).1.1
      simp only [Nat.zero_mul] at h0
      have hsp := spot_none h0
      obtain ⟨⟨c0, c1, c2, c3⟩, _⟩ := hf' j hj'
      obtain ⟨b, o, sp⟩ := a
      simp only at hsp
      subst hsp
      rw [Addr.add_lit] at c0 c1 c2 c3
      simp only [List.getElem_map, List.getElem_range]
      exact ⟨b, o, rfl, c0, by rw [Nat.add_assoc]; exact c1, by rw [Nat.add_assoc]; exact c2, by rw [Nat.add_assoc]; exact c3⟩
    · obtain ⟨i, hi, rfl⟩ := List.mem_map.1 ht
      exact (hf' i (List.mem_range.1 hi)).2

end Go.Proofs.Ytlnblhajcbmmkaa
