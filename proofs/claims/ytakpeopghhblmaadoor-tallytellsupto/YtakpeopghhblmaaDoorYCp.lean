/- Three lists and a number that came in, of bounded bulk. -/
import Derived.Test.YtakpeopghhblmaaDoorYCn
import Derived.Test.YtakpeopghhblmaaDoorYTe
namespace Go.Proofs.YtakpeopghhblmaaDoor
open Go.ChangeShapes Go.WideShapes Go.ChangeAt Go.RowKit Go.Deep

theorem bulk_pos {H : Type} (d : DataW H) : 1 ≤ Rows.uptoBulk d := by
  cases d with
  | lit l => cases l <;> simp [Rows.uptoBulk]
  | nil => simp [Rows.uptoBulk]
  | ptr d => simp [Rows.uptoBulk]
  | slice e s => simp [Rows.uptoBulk]
  | agg p => simp [Rows.uptoBulk]
  | iface t d => simp [Rows.uptoBulk]
  | map e => simp [Rows.uptoBulk]
  | held h => simp [Rows.uptoBulk]

theorem bulk_len {H : Type} : ∀ (l : List (DataW H)), l.length ≤ Rows.uptoBulkAll l
  | [] => by simp
  | d :: r => by
    have := bulk_pos d
    have := bulk_len r
    simp only [Rows.uptoBulkAll, List.length_cons]; omega

theorem bulk_ints {H : Type} {d : DataW H} {xs : List Int} (h : d = .nil ∧ xs = [] ∨ ∃ es sp, d = .slice es sp ∧ es.length = xs.length) : xs.length ≤ Rows.uptoBulk d := by
  rcases h with ⟨_, rfl⟩ | ⟨es, sp, rfl, he⟩
  · simp
  · have := bulk_len es
    simp only [Rows.uptoBulk]
    omega

set_option maxRecDepth 100000 in
theorem parts_arg {H : Type} {enc : TypeId × Value → H} {W : World} {base : Nat} {r : Reach} {b0 : Nat} {spare : Nat → Bool} {held : Bool} {v : Value} {d : DataW H} {p : List MemPlace} (hv : Value.okWide Tryd.prog W r b0 47 v)
    (h : DataW.Trod enc Tryd.prog W base spare held 47 v d p) (hb : Rows.uptoBulk d ≤ 1048576) : ∃ q : Prt, v = .agg (prc q) ∧ q.Ok W := by
  obtain ⟨cs, rfl, -⟩ := okWide_struct Tryd.underlying47 hv
  obtain ⟨fuel, hf⟩ := h
  have c4 : Tryd.prog.cellsOf 47 = 4 := by kernel_rfl
  have c1 : Tryd.prog.cellsOf 2 = 1 := by kernel_rfl
  have cS : Tryd.prog.cellsOf 22 = 1 := by kernel_rfl
  obtain ⟨xs, k, -, hx, hcl, hxl, hfs⟩ := DataW.trod_struct Tryd.underlying47 hf
  rw [c4] at hcl
  obtain ⟨l⟩ := cs
  have hll : l.length = 4 := hcl
  match xs, hxl, l, hll with
  | [y0, y1, y2, y3], _, [v0, v1, v2, v3], _ =>
    have g0 := hfs 0 _ rfl
    have g1 := hfs 1 _ rfl
    have g2 := hfs 2 _ rfl
    have g3 := hfs 3 _ rfl
    simp [c1, cS] at g0 g1 g2 g3
    obtain ⟨ao, ac, la, e0, sa, ia, -, ba⟩ := ints_any g0
    obtain ⟨bo, bc, lb, e1, sb, ib, -, bb⟩ := ints_any g1
    obtain ⟨co, cc, lc, e2, sc, ic, -, bcc⟩ := ints_any g2
    obtain ⟨n, e3, z3, w3⟩ := DataW.trod_int Tryd.underlying2 g3
    injection e3 with e3
    subst e0 e1 e2 e3
    have k0 := bulk_ints ba
    have k1 := bulk_ints bb
    have k2 := bulk_ints bcc
    have hd : d = .agg [y0.1, y1.1, y2.1, y3.1] := by simpa using congrArg Prod.fst hx
    rw [hd] at hb
    simp only [Rows.uptoBulk, Rows.uptoBulkAll] at hb
    exact ⟨⟨ao, ac, la, bo, bc, lb, co, cc, lc, n⟩, rfl, ⟨sa, ia, by show la.length ≤ _; omega, sb, ib, by show lb.length ≤ _; omega, sc, ic, by show lc.length ≤ _; omega, i64_wf w3⟩⟩

end Go.Proofs.YtakpeopghhblmaaDoor
