/- The document's From, with what a nil list has. -/
import Derived.Test.YtegiinnhknfjjaaIRBack
namespace Go.Proofs.Ytegiinnhknfjjaa.IM
open Go.RowKit

/-- A list that is answered. -/
def RetPrn (w : World) (L : List (Int × Int)) (e : Ending) (w' : World) : Prop := ∃ ao cap, e = .returned (.slice ao L.length cap) ∧ Prs w' ao L ∧ (ao = none → cap = 0) ∧ Calm w w'

set_option maxRecDepth 100000 in
theorem rfrom_nil (r : Nat) (which key : Int) (L : List (Int × Int)) (ao : Option Addr) (cap : Nat) (w : World) (h : Rf w r which L ao cap) :
    Calls Try.prog 18 #[.pointer (some ⟨r, 0, none⟩), .int .i64 key] w (RetPrn w (L.drop (lead which key L))) := by
  have PL := hide (rplace_any r which key L ao cap w h)
  have HR := hide h
  have hle := lead_le which key L
  have hc := h.cap
  have h1 : ((lead which key L : Nat) : Int) ≤ (L.length : Int) := by omega
  have h2 : (L.length : Int) ≤ (cap : Int) := by omega
  have HO := hide h.own
  have HN := hide h.nil
  have HPR := hide (h.prs.drop (lead which key L))
  have HLN := hide (show (L.drop (lead which key L)).length = L.length - lead which key L from List.length_drop)
  clear h
  generalize hld : L.drop (lead which key L) = D at *
  clear hld
  generalize lead which key L = k at *
  generalize hnl : L.length = n at *
  clear hnl
  have HLE := hide hle
  have HC := hide hc
  clear hle hc
  go_enter Try.func18, Try.ntmps18
  go_wp2_with fail
  refine PL.out.mono ?_
  rintro e w2 ⟨rfl, t2⟩
  obtain ⟨c0, c1⟩ := cells2 (t2.at HO.out)
  go_wp2_with fail
  all_goals go_ret
  · have hD : D = [] := List.eq_nil_of_length_eq_zero (by have := HLN.out; have := HLE.out; have := HC.out; omega)
    have e0 : n - k = 0 := by have := HLN.out; rw [hD] at this; simpa using this.symm
    rw [hD]
    refine ⟨ao, 0, ?_, Prs.nil _ _, fun _ => rfl, t2⟩
    rw [e0]
    rfl
  · exact ⟨_, _, by rw [HLN.out]; rfl, HPR.out.calm t2, fun e => by have := HN.out (by simpa using e); omega, t2⟩

end Go.Proofs.Ytegiinnhknfjjaa.IM
