/- The document's Get, From. -/
import Derived.Test.YtegiinnhknfjjaaIRef
namespace Go.Proofs.Ytegiinnhknfjjaa.IM
open Go.RowKit

/-- The value of a key that is there. -/
def valAt (which key : Int) (L : List (Int × Int)) : Int := if thereB which key L = true then ((L[lead which key L]?).map (·.2)).getD 0 else 0

theorem there_lt {which key : Int} {L : List (Int × Int)} (h : thereB which key L = true) : lead which key L < L.length := by
  unfold thereB at h
  rcases Nat.lt_or_ge (lead which key L) L.length with h1 | h1
  · exact h1
  · rw [List.getElem?_eq_none h1] at h; cases h

set_option maxRecDepth 100000 in
theorem rget_any (r : Nat) (which key : Int) (L : List (Int × Int)) (ao : Option Addr) (cap : Nat) (w : World) (h : Rf w r which L ao cap) :
    Calls Try.prog 38 #[.pointer (some ⟨r, 0, none⟩), .int .i64 key] w fun e w' => e = .returned (.tuple #[.int .i64 (valAt which key L), .bool (thereB which key L)]) ∧ Calm w w' := by
  have PL := hide (rplace_any r which key L ao cap w h)
  have HR := hide h
  clear h
  cases hth : thereB which key L with
  | false =>
    have hv : valAt which key L = 0 := by unfold valAt; rw [hth]; rfl
    have HV := hide hv
    rw [hth] at PL
    clear hth hv
    go_enter Try.func38, Try.ntmps38
    go_wp2_with fail
    refine PL.out.mono ?_
    rintro e w2 ⟨rfl, t2⟩
    go_wp2_with fail
    go_ret2
    exact ⟨by rw [HV.out]; rfl, t2⟩
  | true =>
    have hlt := there_lt hth
    obtain ⟨b, off, rfl, p0, p1⟩ := HR.out.prs _ hlt
    have hv : valAt which key L = L[lead which key L].2 := by unfold valAt; rw [hth, if_pos rfl, List.getElem?_eq_getElem hlt]; rfl
    rw [← hv] at p1
    rw [hth] at PL
    have hlt' : ((lead which key L : Nat) : Int) < (L.length : Int) := by omega
    have HO := hide HR.out.own
    have HP1 := hide p1
    clear hv p0 p1 hth hlt
    generalize valAt which key L = vv at *
    generalize lead which key L = k at *
    generalize L.length = n at *
    go_enter Try.func38, Try.ntmps38
    go_wp2_with fail
    refine PL.out.mono ?_
    rintro e w2 ⟨rfl, t2⟩
    obtain ⟨c0, c1⟩ := cells2 (t2.at HO.out)
    have c2 := (t2.cell (p := ⟨b, off + k * 2 + 1, none⟩) (lt_of_cell HP1.out) (fun h => h)).trans HP1.out
    go_wp2_with fail
    go_ret2
    exact ⟨rfl, t2⟩

/-- Pairs handed back. -/
def RetPrs (w : World) (L : List (Int × Int)) (e : Ending) (w' : World) : Prop := ∃ ao cap, e = .returned (.slice ao L.length cap) ∧ Prs w' ao L ∧ Calm w w'

theorem Prs.drop {w : World} {ao : Option Addr} {L : List (Int × Int)} (h : Prs w ao L) (k : Nat) : Prs w (ao.map fun x => x.add (k * 2)) (L.drop k) := fun j hj => by
  rw [List.length_drop] at hj
  obtain ⟨b, off, rfl, h1, h2⟩ := h (k + j) (by omega)
  refine ⟨b, off + k * 2, by simp [Addr.add_lit], ?_, ?_⟩
  · have e : off + (k + j) * 2 = off + k * 2 + j * 2 := by omega
    rw [e] at h1
    rw [List.getElem_drop]
    exact h1
  · have e : off + (k + j) * 2 + 1 = off + k * 2 + j * 2 + 1 := by omega
    rw [e] at h2
    rw [List.getElem_drop]
    exact h2

set_option maxRecDepth 100000 in
theorem rfrom_any (r : Nat) (which key : Int) (L : List (Int × Int)) (ao : Option Addr) (cap : Nat) (w : World) (h : Rf w r which L ao cap) :
    Calls Try.prog 18 #[.pointer (some ⟨r, 0, none⟩), .int .i64 key] w (RetPrs w (L.drop (lead which key L))) := by
  have PL := hide (rplace_any r which key L ao cap w h)
  have HR := hide h
  have hle := lead_le which key L
  have hc := h.cap
  have h1 : ((lead which key L : Nat) : Int) ≤ (L.length : Int) := by omega
  have h2 : (L.length : Int) ≤ (cap : Int) := by omega
  have HO := hide h.own
  have HPR := hide (h.prs.drop (lead which key L))
  have HLN := hide (show (L.drop (lead which key L)).length = L.length - lead which key L from List.length_drop)
  clear h
  generalize hld : L.drop (lead which key L) = D at *
  clear hld
  generalize lead which key L = k at *
  generalize hnl : L.length = n at *
  clear hnl
  have HLE := hide hle
  have HC := hide hc
  clear hle hc
  go_enter Try.func18, Try.ntmps18
  go_wp2_with fail
  refine PL.out.mono ?_
  rintro e w2 ⟨rfl, t2⟩
  obtain ⟨c0, c1⟩ := cells2 (t2.at HO.out)
  go_wp2_with fail
  all_goals go_ret
  · have hD : D = [] := List.eq_nil_of_length_eq_zero (by have := HLN.out; have := HLE.out; have := HC.out; omega)
    have e0 : n - k = 0 := by have := HLN.out; rw [hD] at this; simpa using this.symm
    rw [hD]
    refine ⟨ao, 0, ?_, Prs.nil _ _, t2⟩
    rw [e0]
    rfl
  · exact ⟨_, _, by rw [HLN.out]; rfl, HPR.out.calm t2, t2⟩

end Go.Proofs.Ytegiinnhknfjjaa.IM
