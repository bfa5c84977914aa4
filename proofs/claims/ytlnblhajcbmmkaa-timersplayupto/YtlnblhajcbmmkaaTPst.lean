/- The verifier's step, every kind, either side. -/
import Derived.Test.YtlnblhajcbmmkaaTStp7
namespace Go.Proofs.Ytlnblhajcbmmkaa
open Go.RowKit

theorem step_side (w W : World) (b k : Nat) (A B : Od) (Os : List Od) (u v : Value) (col : Nat → Nat) (s : Sp) (h : Pw w b k A B Os u v col W) (hk : kOf s.on = (k : Int)) (gt : Good s.t) (gu : Good s.u) (hl : A.L.length + 1 < 3518437208780) (ho : Os.length ≤ 20) :
    Calls Try.prog 11 #[.pointer (some ⟨b, 0, none⟩), sv s] W (Stp7R w b k A B) := by
  by_cases h7 : s.kind = 7
  · obtain ⟨kind, on, leave, t, tu, upto⟩ := s
    simp only at h7 hk gt gu
    subst h7
    have hk2 := h.k2
    rcases (show k = 0 ∨ k = 1 by omega) with rfl | rfl
    · exact step7_0 w W b A B Os u v col on leave t tu upto h hk (by omega) ho
    · exact step7_1 w W b A B Os u v col on leave t tu upto h hk (by omega) ho
  · refine (step_any b k A.q A.F A.V A.L A.lo A.lc B.ptr B.sl u v s W h.wd hk h7 gt gu (by omega)).mono ?_
    rintro e W' ⟨rfl, F', V', L', lo', lc', wd, hlen, hF, hlo, ht⟩
    obtain ⟨col', pw⟩ := h.step wd hF hlo ht (by omega)
    exact ⟨rfl, _, _, _, _, col', pw, hlen, ho⟩

/-- A step has been taken, on either side. -/
def StpP (w : World) (b N : Nat) (e : Ending) (W' : World) : Prop :=
  e = .returned (.bool true) ∧ ∃ (A B : Od) (Os : List Od) (u v : Value) (col : Nat → Nat), Pw w b 0 A B Os u v col W' ∧ A.L.length ≤ N + 1 ∧ B.L.length ≤ N + 1 ∧ Os.length ≤ 20

theorem step_whole (w W : World) (b N : Nat) (A B : Od) (Os : List Od) (u v : Value) (col : Nat → Nat) (s : Sp) (h : Pw w b 0 A B Os u v col W) (gt : Good s.t) (gu : Good s.u) (ha : A.L.length ≤ N) (hb : B.L.length ≤ N) (hN : N + 1 < 3518437208780) (ho : Os.length ≤ 20) :
    Calls Try.prog 11 #[.pointer (some ⟨b, 0, none⟩), sv s] W (StpP w b N) := by
  rcases kOf_two s.on with hk | hk
  · refine (step_side w W b 0 A B Os u v col s h hk gt gu (by omega) ho).mono ?_
    rintro e W' ⟨rfl, A', Os', u', v', col', pw, h1, h2⟩
    exact ⟨rfl, A', B, Os', u', v', col', pw, by omega, by omega, h2⟩
  · refine (step_side w W b 1 B A Os u v col s h.swap hk gt gu (by omega) ho).mono ?_
    rintro e W' ⟨rfl, A', Os', u', v', col', pw, h1, h2⟩
    exact ⟨rfl, A, A', Os', u', v', col', pw.swap, by omega, by omega, h2⟩

end Go.Proofs.Ytlnblhajcbmmkaa
