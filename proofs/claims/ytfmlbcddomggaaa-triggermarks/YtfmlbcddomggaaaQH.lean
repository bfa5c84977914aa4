/- The library's stable sort: rotateCmpFunc. -/
import Derived.Test.YtfmlbcddomggaaaQG
namespace Go.Proofs.Ytfmlbcddomggaaa
open Go.Shelf Go.RowKit Go.Lib Go.Sort
namespace Sb
variable {P : Program} {k : Nat} {α : Type} [Inhabited α]

theorem swr_step (d : Array α) (A X M Y B : List α) (h : d.toList = A ++ (X ++ (M ++ (Y ++ B)))) (hl : X.length = Y.length) : ∀ i, i ≤ X.length →
    (swr d A.length (A.length + X.length + M.length) i).toList = A ++ (Y.take i ++ (X.drop i ++ (M ++ (X.take i ++ (Y.drop i ++ B)))))
  | 0, _ => by simp [swr, h]
  | i + 1, hi => by
    have ih := swr_step d A X M Y B h hl i (by omega)
    have hx : i < X.length := by omega
    have hy : i < Y.length := by omega
    have e1 : (A ++ Y.take i).length = A.length + i := by rw [List.length_append, List.length_take]; omega
    have e2 : (X.drop (i + 1) ++ (M ++ X.take i)).length = X.length - (i + 1) + (M.length + i) := by rw [List.length_append, List.length_append, List.length_drop, List.length_take]; omega
    have s := swp_list (swr d A.length (A.length + X.length + M.length) i) (A ++ Y.take i) (X.drop (i + 1) ++ (M ++ X.take i)) (Y.drop (i + 1) ++ B) X[i] Y[i] (by
      rw [ih, List.drop_eq_getElem_cons hx, List.drop_eq_getElem_cons hy]; simp only [List.append_assoc, List.cons_append])
    rw [e1, e2, show A.length + i + 1 + (X.length - (i + 1) + (M.length + i)) = A.length + X.length + M.length + i by omega] at s
    rw [swr, s, List.take_succ_eq_append_getElem hx, List.take_succ_eq_append_getElem hy]
    simp only [List.append_assoc, List.cons_append, List.nil_append]

/-- Two blocks of one length change places. -/
theorem swr_list (d : Array α) (A X M Y B : List α) (h : d.toList = A ++ (X ++ (M ++ (Y ++ B)))) (hl : X.length = Y.length) : (swr d A.length (A.length + X.length + M.length) X.length).toList = A ++ (Y ++ (M ++ (X ++ B))) := by
  rw [swr_step d A X M Y B h hl X.length (Nat.le_refl _)]
  conv => lhs; arg 2; arg 1; rw [hl]
  conv => lhs; arg 2; arg 2; arg 2; arg 2; arg 2; arg 1; rw [hl]
  simp

/-- The blocks that are still to change places. -/
def Rt (T : List α) (m i j : Nat) (d : Array α) : Prop := ∃ A X Y B : List α, d.toList = A ++ (X ++ (Y ++ B)) ∧ A.length + i = m ∧ X.length = i ∧ Y.length = j ∧ T = A ++ (Y ++ (X ++ B))

theorem Rt.more {T : List α} {m i j : Nat} {d : Array α} (h : Rt T m i j d) (hij : j < i) : Rt T m (i - j) j (swr d (m - i) m j) := by
  obtain ⟨A, X, Y, B, h1, h2, h3, h4, h5⟩ := h
  have e : ∀ Z, X ++ Z = X.take j ++ (X.drop j ++ Z) := fun Z => by rw [← List.append_assoc, List.take_append_drop]
  have l1 : (X.take j).length = j := by rw [List.length_take]; omega
  have l2 : (X.drop j).length = i - j := by rw [List.length_drop]; omega
  have s := swr_list d A (X.take j) (X.drop j) Y B (by rw [h1, e]) (by omega)
  rw [l1, l2, show A.length + j + (i - j) = m by omega, show A.length = m - i by omega] at s
  refine ⟨A ++ Y, X.drop j, X.take j, B, by rw [s]; simp, by rw [List.length_append]; omega, l2, l1, ?_⟩
  rw [h5, e, List.append_assoc]

theorem Rt.less {T : List α} {m i j : Nat} {d : Array α} (h : Rt T m i j d) (hij : i < j) : Rt T m i (j - i) (swr d (m - i) (m + j - i) i) := by
  obtain ⟨A, X, Y, B, h1, h2, h3, h4, h5⟩ := h
  have e : ∀ Z, Y ++ Z = Y.take (j - i) ++ (Y.drop (j - i) ++ Z) := fun Z => by rw [← List.append_assoc, List.take_append_drop]
  have l1 : (Y.take (j - i)).length = j - i := by rw [List.length_take]; omega
  have l2 : (Y.drop (j - i)).length = i := by rw [List.length_drop]; omega
  have s := swr_list d A X (Y.take (j - i)) (Y.drop (j - i)) B (by rw [h1, e]) (by omega)
  rw [l1, h3, show A.length + i + (j - i) = m + j - i by omega, show A.length = m - i by omega] at s
  refine ⟨A, Y.drop (j - i), Y.take (j - i), X ++ B, s, h2, l2, l1, ?_⟩
  rw [h5, e]

theorem Rt.done {T : List α} {m i : Nat} {d : Array α} (h : Rt T m i i d) : (swr d (m - i) m i).toList = T := by
  obtain ⟨A, X, Y, B, h1, h2, h3, h4, h5⟩ := h
  have s := swr_list d A X [] Y B (by rw [h1]; simp) (by omega)
  rw [h3, show A.length + i + ([] : List α).length = m by simp; omega, show A.length = m - i by omega] at s
  rw [s, h5]
  simp

omit [Inhabited α] in
theorem Rt.end_ {T : List α} {m i j : Nat} {d : Array α} (h : Rt T m i j d) : m + j ≤ d.size ∧ i ≤ m := by
  obtain ⟨A, X, Y, B, h1, h2, h3, h4, h5⟩ := h
  have := congrArg List.length h1
  simp at this
  omega

set_option maxHeartbeats 4000000 in
set_option maxRecDepth 1000000 in
theorem rotate_any (L : Ls P k) (enc : α → List Value) (fv : Value) (blk off cap a m b : Nat) (d0 d : Array α) (T : List α) (w0 w : World)
    (R : RowK enc k w0 blk off d0) (hs : d.size = d0.size) (S : SWK enc k w0 blk off d w) (ham : a < m) (hmb : m < b) (hT : Rt T m (m - a) (b - m) d) (hsz : d.size < 4611686018427387904) :
    Calls P 44 #[.slice (some ⟨blk, off, none⟩) d.size cap, .int .i64 a, .int .i64 m, .int .i64 b, fv] w fun e w' => e = .returned (.tuple #[]) ∧ ∃ d' : Array α, d'.toList = T ∧ d'.size = d.size ∧ SWK enc k w0 blk off d' w' := by
  have eSw : ∀ args w, (callFunc 45 args).run P w = .ok (.enter 45 args) w := enters_of L.fSw (by kernel_rfl) rfl
  have CS : Hid (∀ (dk : Array α) (wr : World) (x y n : Nat), dk.size = d.size → SWK enc k w0 blk off dk wr → x + n ≤ y → y + n ≤ d.size → Calls P 45 #[.slice (some ⟨blk, off, none⟩) d.size cap, .int .i64 x, .int .i64 y, .int .i64 n, fv] wr fun e w' => e = .returned (.tuple #[]) ∧ SWK enc k w0 blk off (swr dk x y n) w') := hide fun dk wr x y n h1 h2 h3 h4 => by
    have := swapRange_any L enc fv blk off cap x y n d0 dk w0 wr R (by omega) h2 h3 (by omega) (by omega)
    rwa [h1] at this
  have mixed := L.mixed; have t0 := L.t0; have a0 := L.a0; have z0 := L.z0; have v0 := L.v0; have t3 := L.t3; have a3 := L.a3; have z3 := L.z3; have v3 := L.v3; have t4 := L.t4; have a4 := L.a4; have z4 := L.z4; have v4 := L.v4; have tp := L.tp; have ap := L.ap; have zp := L.zp; have vp := L.vp; have tf := L.tf; have af := L.af; have zf := L.zf; have vf := L.vf
  have FG := L.fRo
  have S0 : Hid (SWK enc k w0 blk off d w) := S
  have HT := hide hT
  have hend := hT.end_
  have r1 : IntKind.i64.wrap ((m : Int) - (a : Int)) = ((m - a : Nat) : Int) := by rw [IntKind.wrap_i64]; omega
  have r2 : IntKind.i64.wrap ((b : Int) - (m : Int)) = ((b - m : Nat) : Int) := by rw [IntKind.wrap_i64]; omega
  have hi0 : 0 < m - a := by omega
  have hj0 : 0 < b - m := by omega
  generalize m - a = i0 at *
  generalize b - m = j0 at *
  have hsz' := hide hs
  clear S L hT R hs
  go_enter FG, Try.ntmps44
  go_wp2
  go_loopg [10, 11] (i0 + j0) (fun kx s10 s11 wr => ∃ (i j : Nat) (dk : Array α), s10 = .int .i64 i ∧ s11 = .int .i64 j ∧ 0 < i ∧ 0 < j ∧ i + j ≤ kx ∧ dk.size = d.size ∧ Hid (SWK enc k w0 blk off dk wr) ∧ Hid (Rt T m i j dk))
  case atStart => exact ⟨i0, j0, d, rfl, rfl, hi0, hj0, Nat.le_refl _, rfl, S0, HT⟩
  case round =>
    clear S0 HT
    obtain ⟨i, j, dk, rfl, rfl, hi, hj, hkx, hds, S1, H1⟩ := hrel
    have he := H1.out.end_
    by_cases hij : i = j
    · subst hij
      have r3 : IntKind.i64.wrap ((m : Int) - (i : Int)) = ((m - i : Nat) : Int) := by rw [IntKind.wrap_i64]; omega
      have C1 := hide (CS.out dk wr (m - i) m i hds S1.out (by omega) (by omega))
      have HD := hide H1.out.done
      have HZ : Hid ((swr dk (m - i) m i).size = d.size) := hide ((size_swr dk (m - i) m i).trans hds)
      go_wp2_with (go_at_fn 45; refine C1.out.mono ?_; rintro e w' ⟨rfl, S2⟩)
      go_end0
      exact ⟨rfl, _, HD.out, HZ.out, S2⟩
    · have hne : ¬ (i : Int) = (j : Int) := by omega
      have r3 : IntKind.i64.wrap ((m : Int) - (i : Int)) = ((m - i : Nat) : Int) := by rw [IntKind.wrap_i64]; omega
      by_cases hlt : j < i
      · have hltz : (j : Int) < (i : Int) := by omega
        have r4 : IntKind.i64.wrap ((i : Int) - (j : Int)) = ((i - j : Nat) : Int) := by rw [IntKind.wrap_i64]; omega
        have C1 := hide (CS.out dk wr (m - i) m j hds S1.out (by omega) (by omega))
        have H2 := hide (H1.out.more hlt)
        have HZ : Hid ((swr dk (m - i) m j).size = d.size) := hide ((size_swr dk (m - i) m j).trans hds)
        go_wp2_with (go_at_fn 45; refine C1.out.mono ?_; rintro e w' ⟨rfl, S2⟩)
        go_roundg (i - j + j)
        case measure => omega
        case rel => exact ⟨i - j, j, _, by go_num, rfl, by omega, by omega, Nat.le_refl _, HZ.out, S2, H2⟩
      · have hltz : ¬ (j : Int) < (i : Int) := by omega
        have r4 : IntKind.i64.wrap ((j : Int) - (i : Int)) = ((j - i : Nat) : Int) := by rw [IntKind.wrap_i64]; omega
        have C1 := hide (CS.out dk wr (m - i) (m + j - i) i hds S1.out (by omega) (by omega))
        have H2 := hide (H1.out.less (by omega))
        have HZ : Hid ((swr dk (m - i) (m + j - i) i).size = d.size) := hide ((size_swr dk (m - i) (m + j - i) i).trans hds)
        obtain ⟨y, hy⟩ : ∃ y, y = m + j - i := ⟨_, rfl⟩
        obtain ⟨mj, hmj⟩ : ∃ mj, mj = m + j := ⟨_, rfl⟩
        rw [← hy] at C1 H2 HZ
        have r5 : IntKind.i64.wrap ((m : Int) + (j : Int)) = (mj : Int) := by rw [IntKind.wrap_i64]; omega
        have r6 : IntKind.i64.wrap ((mj : Int) - (i : Int)) = (y : Int) := by rw [IntKind.wrap_i64]; omega
        clear hy hmj
        go_wp2_with (go_at_fn 45; refine C1.out.mono ?_; rintro e w' ⟨rfl, S2⟩)
        go_roundg (i + (j - i))
        case measure => omega
        case rel => exact ⟨i, j - i, _, rfl, by go_num, by omega, by omega, Nat.le_refl _, HZ.out, S2, H2⟩

end Sb
end Go.Proofs.Ytfmlbcddomggaaa
