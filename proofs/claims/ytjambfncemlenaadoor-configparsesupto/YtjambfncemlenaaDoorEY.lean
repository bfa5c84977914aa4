/- A job out of a text (the program's parseNumbers). -/
import Derived.Test.YtjambfncemlenaaDoorEX
import Derived.Test.YtjambfncemlenaaDoorEH
import Derived.Test.YtjambfncemlenaaDoorEE
namespace Go.Proofs.YtjambfncemlenaaDoor
open Go.RowKit

abbrev zS : ByteArray := ⟨#[]⟩
/-- What a text's piece says, at its place. -/
def kindO (t : ByteArray) : Option Int := if (valB 2 1).toList == t.toList then some 1 else if (valB 2 2).toList == t.toList then some 2 else if (valB 2 3).toList == t.toList then some 3 else none
def discO (t : ByteArray) : Option Int := if (valB 9 0).toList == t.toList then some 0 else if (valB 9 1).toList == t.toList then some 1 else none
def nFo (i : Nat) (t : ByteArray) : Option Int := if i = 2 then kindO t else if i = 9 then discO t else pN t
/-- The first i numbers that the pieces say. -/
def ppS (P : List ByteArray) : Nat → Option (Nat → Int)
  | 0 => some f0
  | i + 1 => match ppS P i with
    | none => none
    | some f => if (P.getD (2 * i) zS).toList == (nm i).toList then (match nFo i (P.getD (2 * i + 1) zS) with
      | some x => some (stF f i x)
      | none => none) else none
theorem ppS_none {P : List ByteArray} {i : Nat} (h : ppS P i = none) : ∀ k, ppS P (i + k) = none
  | 0 => h
  | k + 1 => by rw [← Nat.add_assoc, ppS, ppS_none h k]
def pieces (s : ByteArray) : List ByteArray := Lib.splitB ⟨#[32]⟩ 0 (min 20 (s.size + 1) - 1) s
theorem splitB_size (sep : ByteArray) : ∀ (k : Nat) (s x : ByteArray), x ∈ Lib.splitB sep 0 k s → x.size ≤ s.size
  | 0, s, x, h => by
    rw [Lib.splitB_zero] at h
    rw [List.mem_singleton.1 h]; exact Nat.le_refl _
  | k + 1, s, x, h => by
    unfold Lib.splitB at h
    split at h
    · rw [List.mem_singleton.1 h]; exact Nat.le_refl _
    · rcases List.mem_cons.1 h with h | h
      · rw [h, ByteArray.size_extract]; omega
      · have := splitB_size sep k _ x h
        rw [ByteArray.size_extract] at this
        omega
theorem pieceP_size (s : ByteArray) (i : Nat) (hi : i < (pieces s).length) : ((pieces s).getD i zS).size ≤ s.size := by
  rw [List.getD_eq_getElem?_getD, List.getElem?_eq_getElem hi]
  exact splitB_size _ _ _ _ (List.getElem_mem hi)
def ppN (s : ByteArray) : Option (Nat → Int) := if (pieces s).length = 20 then ppS (pieces s) 10 else none
def ppF (s : ByteArray) : Nat → Int := (ppN s).getD f0

abbrev nmA : Array Value := #[.string (nm 0), .string (nm 1), .string (nm 2), .string (nm 3), .string (nm 4), .string (nm 5), .string (nm 6), .string (nm 7), .string (nm 8), .string (nm 9)]
theorem run_index_words (i : Nat) (hi : i < 10) (w : World) : (Instr.index 106 (.agg nmA) (.int .i64 (i : Int))).run Tryd.prog w = .ok (.string (nm i)) w := by
  rcases (by omega : i = 0 ∨ i = 1 ∨ i = 2 ∨ i = 3 ∨ i = 4 ∨ i = 5 ∨ i = 6 ∨ i = 7 ∨ i = 8 ∨ i = 9) with rfl | rfl | rfl | rfl | rfl | rfl | rfl | rfl | rfl | rfl <;> kernel_rfl

set_option maxRecDepth 100000 in
theorem splitN_any (s : ByteArray) (hs : s.size < 4294967281) (w : World) (he : Errs w) : Calls Tryd.prog 61 #[.string s, .string ⟨#[32]⟩, .int .i64 20] w fun e w' => ∃ B, e = .returned (.slice (some ⟨B, 0, none⟩) (pieces s).length (min 20 (s.size + 1))) ∧ Calm w w' ∧ (∀ W, Calm w' W → ∀ j, j < (pieces s).length → W.cell? ⟨B, j, none⟩ = some (.string ((pieces s).getD j zS))) := by
  obtain ⟨-, -, m, hm⟩ := he
  refine (Any.strings_SplitN Tryd.lays147 (by kernel_rfl) s ⟨#[32]⟩ 20 m w hs hm (by decide) (by omega) (by omega)).mono ?_
  rintro e w' ⟨rfl, rfl⟩
  refine ⟨w.heap.size, rfl, (Touch.refl _ w).alloc _, fun W hW j hj => ?_⟩
  refine cell_calm ?_ hW
  have hj' : j < (Lib.splitB ⟨#[32]⟩ 0 (min 20 (s.size + 1) - 1) s).length := hj
  unfold pieces
  generalize Lib.splitB ⟨#[32]⟩ 0 (min 20 (s.size + 1) - 1) s = L at *
  have a := al_new w (.cells (Lib.cellsOf L (min 20 (s.size + 1))) (Tryd.lays147_ren.t 9))
  unfold World.cell?
  simp only [a]
  show ((L.map Value.string ++ List.replicate (min 20 (s.size + 1) - L.length) (Value.string ByteArray.empty)).toArray)[j]? = _
  rw [List.getElem?_toArray, List.getElem?_append_left (by simpa using hj')]
  simp [hj']

/-- The names of a number at its place, and the number of the first. -/
def nmL (i : Nat) : List ByteArray := if i = 2 then [valB 2 1, valB 2 2, valB 2 3] else if i = 9 then [valB 9 0, valB 9 1] else []
def nmX (i : Nat) : Int := if i = 2 then 1 else 0
theorem names_all (i : Nat) (w : World) : Calls Tryd.prog 62 #[.int .i64 (i : Int)] w fun e w' => ∃ no N, e = .returned (.tuple #[.slice no (nmL i).length (nmL i).length, .int .i64 (nmX i)]) ∧ Calm w w' ∧ ∀ j, j < (nmL i).length → no = some ⟨N, 0, none⟩ ∧ w.heap.size ≤ N ∧ ∀ W, Calm w' W → W.cell? ⟨N, j, none⟩ = some (.string ((nmL i).getD j zS)) := by
  by_cases h2 : i = 2
  · subst h2
    refine (names_2 w).mono ?_
    rintro e w' ⟨rfl, rfl⟩
    refine ⟨_, w.heap.size, rfl, (Touch.refl _ w).alloc _, fun j hj => ⟨rfl, Nat.le_refl _, fun W hW => ?_⟩⟩
    refine cell_calm ?_ hW
    have a := al_new w (.cells kindsC 9)
    have hj3 : j < 3 := hj
    rcases (by omega : j = 0 ∨ j = 1 ∨ j = 2) with rfl | rfl | rfl <;> (unfold World.cell?; simp only [a]; rfl)
  · by_cases h9 : i = 9
    · subst h9
      refine (names_9 w).mono ?_
      rintro e w' ⟨rfl, rfl⟩
      refine ⟨_, w.heap.size, rfl, (Touch.refl _ w).alloc _, fun j hj => ⟨rfl, Nat.le_refl _, fun W hW => ?_⟩⟩
      refine cell_calm ?_ hW
      have a := al_new w (.cells discC 9)
      have hj3 : j < 2 := hj
      rcases (by omega : j = 0 ∨ j = 1) with rfl | rfl <;> (unfold World.cell?; simp only [a]; rfl)
    · refine (names_else i h2 h9 w).mono ?_
      rintro e w' ⟨rfl, rfl⟩
      have e0 : nmL i = [] := by unfold nmL; rw [if_neg h2, if_neg h9]
      have e1 : nmX i = 0 := by unfold nmX; rw [if_neg h2]
      rw [e0, e1]
      exact ⟨none, 0, rfl, Touch.refl _ _, fun j hj => absurd hj (by simp)⟩
theorem nFo_found {i k : Nat} {t : ByteArray} (hk : k < (nmL i).length) (hb : ∀ j, j < k → (((nmL i).getD j zS).toList == t.toList) = false) (he : (((nmL i).getD k zS).toList == t.toList) = true) : nFo i t = some (nmX i + (k : Int)) := by
  unfold nmL at hk hb he
  unfold nFo nmX
  by_cases h2 : i = 2
  · rw [if_pos h2] at hk hb he
    rw [if_pos h2, if_pos h2]
    unfold kindO
    have hk3 : k < 3 := hk
    rcases (by omega : k = 0 ∨ k = 1 ∨ k = 2) with rfl | rfl | rfl
    · rw [if_pos (show ((valB 2 1).toList == t.toList) = true from he)]; rfl
    · have b0 := hb 0 (by omega)
      rw [if_neg (by rw [show ((valB 2 1).toList == t.toList) = false from b0]; decide), if_pos (show ((valB 2 2).toList == t.toList) = true from he)]; rfl
    · have b0 := hb 0 (by omega)
      have b1 := hb 1 (by omega)
      rw [if_neg (by rw [show ((valB 2 1).toList == t.toList) = false from b0]; decide), if_neg (by rw [show ((valB 2 2).toList == t.toList) = false from b1]; decide), if_pos (show ((valB 2 3).toList == t.toList) = true from he)]; rfl
  · rw [if_neg h2] at hk hb he
    rw [if_neg h2, if_neg h2]
    by_cases h9 : i = 9
    · rw [if_pos h9] at hk hb he
      rw [if_pos h9]
      unfold discO
      have hk3 : k < 2 := hk
      rcases (by omega : k = 0 ∨ k = 1) with rfl | rfl
      · rw [if_pos (show ((valB 9 0).toList == t.toList) = true from he)]; rfl
      · have b0 := hb 0 (by omega)
        rw [if_neg (by rw [show ((valB 9 0).toList == t.toList) = false from b0]; decide), if_pos (show ((valB 9 1).toList == t.toList) = true from he)]; rfl
    · rw [if_neg h9] at hk; simp at hk
theorem nFo_miss {i : Nat} {t : ByteArray} (hb : ∀ j, j < (nmL i).length → (((nmL i).getD j zS).toList == t.toList) = false) : nFo i t = if (nmL i).length = 0 then pN t else none := by
  unfold nmL at hb ⊢
  unfold nFo
  by_cases h2 : i = 2
  · rw [if_pos h2] at hb ⊢
    rw [if_pos h2]
    unfold kindO
    have b0 := hb 0 (by simp)
    have b1 := hb 1 (by simp)
    have b2 := hb 2 (by simp)
    rw [if_neg (by rw [show ((valB 2 1).toList == t.toList) = false from b0]; decide), if_neg (by rw [show ((valB 2 2).toList == t.toList) = false from b1]; decide), if_neg (by rw [show ((valB 2 3).toList == t.toList) = false from b2]; decide)]
    rfl
  · rw [if_neg h2] at hb ⊢
    rw [if_neg h2]
    by_cases h9 : i = 9
    · rw [if_pos h9] at hb ⊢
      rw [if_pos h9]
      unfold discO
      have b0 := hb 0 (by simp)
      have b1 := hb 1 (by simp)
      rw [if_neg (by rw [show ((valB 9 0).toList == t.toList) = false from b0]; decide), if_neg (by rw [show ((valB 9 1).toList == t.toList) = false from b1]; decide)]
      rfl
    · rw [if_neg h9, if_neg h9]; rfl
theorem nmL_len (i : Nat) : (nmL i).length ≤ 3 := by
  unfold nmL
  split
  · simp
  · split <;> simp
theorem nmX_in (i : Nat) : 0 ≤ nmX i ∧ nmX i ≤ 1 := by
  unfold nmX
  split <;> omega

/-- What the text's numbers are; noughts, if it says none. -/
theorem ppF_none {s : ByteArray} (h : ppN s = none) : ppF s = f0 := by unfold ppF; rw [h]; rfl
theorem ppF_some {s : ByteArray} {f : Nat → Int} (h : ppN s = some f) : ppF s = f := by unfold ppF; rw [h]; rfl

set_option maxRecDepth 100000 in
set_option maxHeartbeats 4000000 in
theorem parseNumbers_any (s : ByteArray) (hs : s.size < 4294967281) (w : World) (ht : Tab w) (he : Errs w) (hw : Words w gW) : Calls Tryd.prog 39 #[.string s] w fun e w' => e = .returned (.agg (f10c (ppF s))) ∧ Calm w w' := by
  have CS : Hid (∀ W, Calm w W → Calls Tryd.prog 61 #[.string s, .string ⟨#[32]⟩, .int .i64 20] W fun e w' => ∃ B, e = .returned (.slice (some ⟨B, 0, none⟩) (pieces s).length (min 20 (s.size + 1))) ∧ Calm W w' ∧ (∀ V, Calm w' V → ∀ j, j < (pieces s).length → V.cell? ⟨B, j, none⟩ = some (.string ((pieces s).getD j zS)))) := hide fun W hW => splitN_any s hs W (he.calm hW)
  have CP : Hid (∀ i W, i < (pieces s).length → Calm w W → Calls Tryd.prog 63 #[.string ((pieces s).getD i zS)] W fun e w' => e = .returned (pnV (pN ((pieces s).getD i zS))) ∧ Calm W w') := hide fun i W hi hW => parseNumber_any _ (by have := pieceP_size s i hi; omega) W (ht.calm hW) (he.calm hW)
  have HN : Hid (ppN s = if (pieces s).length = 20 then ppS (pieces s) 10 else none) := hide rfl
  have HF0 := hide (ppF_none (s := s))
  have HF1 : Hid (∀ f, ppN s = some f → ppF s = f) := hide fun f h => ppF_some h
  have NX : Hid (∀ i f, ppS (pieces s) i = some f → ppS (pieces s) (i + 1) = if ((pieces s).getD (2 * i) zS).toList == (nm i).toList then (match nFo i ((pieces s).getD (2 * i + 1) zS) with
      | some x => some (stF f i x)
      | none => none) else none) := hide fun i f h => by rw [ppS, h]
  have NN : Hid (∀ i, i ≤ 10 → ppS (pieces s) i = none → ppS (pieces s) 10 = none) := hide fun i hi h => by have := ppS_none h (10 - i); rwa [show i + (10 - i) = 10 by omega] at this
  have WG := hide hw
  have IXW : Hid (∀ (i : Nat), i < 10 → ∀ W, (Instr.index 106 (.agg nmA) (.int .i64 (i : Int))).run Tryd.prog W = .ok (.string (nm i)) W) := hide fun i hi W => run_index_words i hi W
  obtain ⟨Z, hZ⟩ : ∃ Z : Array Value, Z = z10 := ⟨_, rfl⟩
  have zs : Hid (z10.size = Z.size) := hide (by rw [hZ])
  have za : Hid (Z.all (·.oneCell') = true) := hide (by rw [hZ]; kernel_rfl)
  have zi : Hid ((Tryd.prog.info? 62).map (·.size) = some Z.size) := hide (by rw [hZ]; kernel_rfl)
  have HZ := hide hZ
  have A1 := al_new w (.cells z10 62)
  have A2 := al_new (w.alloc (.cells z10 62)) (.cells z10 62)
  rw [al_size] at A2
  replace A1 := hide (al_old A1 (.cells z10 62))
  replace A2 := hide A2
  have T0 := hide (((Touch.refl (fun _ => False) w).alloc (.cells z10 62)).alloc (.cells z10 62))
  clear hs ht he hw hZ
  generalize ppF s = R at *
  generalize ppN s = RN at *
  generalize min 20 (s.size + 1) = cap at *
  generalize pieces s = P at *
  obtain ⟨n, hn⟩ : ∃ n, n = P.length := ⟨_, rfl⟩
  rw [← hn] at CS CP HN
  clear hn
  go_enter Tryd.func39, Tryd.ntmps39
  go_wp2_with fail
  refine wp_scope_straight ?_
  go_wp2_with fail
  generalize (w.alloc (.cells z10 62)).alloc (.cells z10 62) = w0 at *
  generalize hA : w.heap.size = A at *
  refine (CS.out _ T0.out).mono ?_
  rintro e w1 ⟨B, rfl, T1, PC⟩
  have B1 := hide (T1.at A1.out)
  have B2 := hide (T1.at A2.out)
  have TT := hide (T0.out.tr T1)
  have HPC := hide PC
  clear CS T1 PC A1 A2 T0
  by_cases hn20 : n = 20
  · subst hn20
    have HN2 : Hid (RN = ppS P 10) := hide HN.out
    clear HN
    have q0 := WG.out w1 TT.out 0 (by omega)
    have q1 := WG.out w1 TT.out 1 (by omega)
    have q2 := WG.out w1 TT.out 2 (by omega)
    have q3 := WG.out w1 TT.out 3 (by omega)
    have q4 := WG.out w1 TT.out 4 (by omega)
    have q5 := WG.out w1 TT.out 5 (by omega)
    have q6 := WG.out w1 TT.out 6 (by omega)
    have q7 := WG.out w1 TT.out 7 (by omega)
    have q8 := WG.out w1 TT.out 8 (by omega)
    have q9 := WG.out w1 TT.out 9 (by omega)
    go_wp2_with fail
    refine wp_label ?_
    go_wp2_with fail
    clear q0 q1 q2 q3 q4 q5 q6 q7 q8 q9
    have HP : Hid (∀ W, Touch (fun k => k = A + 1) w1 W → ∀ j, j < 20 → W.cell? ⟨B, j, none⟩ = some (.string (P.getD j zS))) := hide fun W hW j hj => by
      have h1 := HPC.out w1 (Touch.refl _ _) j hj
      have hBl : B < w1.heap.size := by
        rcases Nat.lt_or_ge B w1.heap.size with h' | h'
        · exact h'
        · exfalso; simp [World.cell?, Array.getElem?_eq_none h'] at h1
      rw [hW.cell (p := ⟨B, j, none⟩) hBl (fun e => by
        have h0 := HPC.out w1 (Touch.refl _ _) 0 (by omega)
        have e' : B = A + 1 := e
        rw [e'] at h0
        have := f10_cells (f := f0) B2.out 0 (by omega)
        rw [this] at h0
        cases h0)]
      exact h1
    have hA1 : A + 1 < w1.heap.size := lt_of_heap B2.out
    go_loopw [21] (fun s wr => ∃ (i : Nat) (f : Nat → Int), s = .int .i64 (i : Int) ∧ i ≤ 10 ∧ ppS P i = some f ∧ wr.heap[A]? = some (.cells z10 62 (0, 0)) ∧ wr.heap[A + 1]? = some (.cells (f10c f) 62 (0, 0)) ∧ Touch (fun k => k = A + 1) w1 wr) (fun s _ => 10 - (intOf s).toNat)
    case atStart => exact ⟨0, f0, rfl, by omega, rfl, B1.out, B2.out, Touch.refl _ _⟩
    case round =>
      obtain ⟨i, f, rfl, hi, hS, C1, C2, TL⟩ := hrel
      have TW : Calm w wr := TT.out.trans TL fun k hk e => by omega
      by_cases hlt : i < 10
      · have hltz : (i : Int) < 10 := by omega
        have ix := IXW.out i hlt
        have nx := NX.out i f hS
        have c1 := HP.out wr TL (2 * i) (by omega)
        have c2 := HP.out wr TL (2 * i + 1) (by omega)
        have m1 : wrap64 (2 * (i : Int)) = ((2 * i : Nat) : Int) := by rw [wr_in _ (by omega)]; omega
        have m2 : wrap64 (((2 * i : Nat) : Int) + 1) = ((2 * i + 1 : Nat) : Int) := by rw [wr_in _ (by omega)]; omega
        have hb1 : ((2 * i : Nat) : Int) < 20 := by omega
        have hb2 : ((2 * i + 1 : Nat) : Int) < 20 := by omega
        have CPi := hide (CP.out (2 * i + 1))
        generalize P.getD (2 * i) zS = pa at *
        generalize P.getD (2 * i + 1) zS = pt at *
        have hw1 : w1.heap.size ≤ wr.heap.size := TL.size
        have HTL := hide TL
        have HTW := hide TW
        replace C1 := hide C1
        replace C2 := hide C2
        have NF : Hid (ppS P (i + 1) = none → R = f0) := hide fun h => HF0.out (by rw [HN2.out]; exact NN.out (i + 1) (by omega) h)
        clear TL TW IXW NX NN HF0 HP hS CP
        cases heq : (pa.toList == (nm i).toList) with
        | false =>
          rw [heq] at nx
          have HR : Hid (R = f0) := hide (NF.out nx)
          have HF : Hid (Calm w (wr.setRow A Z)) := hide (row_touch HTW.out (by omega) _)
          clear nx NF
          go_wp2_with (first | refine wpList_built rfl 62 _ rfl Z (by rw [HZ.out]; kernel_rfl) ?_ | (refine wpList_store_whole rfl rfl 62 (.tmp 2) (.tmp 32) rfl A Z ?_ ?_ 62 z10 ?_ zi.out zs.out za.out ?_; rfl; rfl; exact C1.out))
          rw [Exit.noGoto_ret]
          refine bodyPost_ret (results_cell_row rfl _ _ _ _ _ _ _ rfl (setRow_heap _ _ _ _ _ _ C1.out) Tryd.underlying62 rfl zi.out) rfl ?_
          exact ⟨by rw [HR.out, HZ.out]; rfl, HF.out⟩
        | true =>
          rw [heq] at nx
          go_wp2_with fail
          have FD := hide (fun k => nFo_found (i := i) (k := k) (t := pt))
          have MS := hide (nFo_miss (i := i) (t := pt))
          have XI := nmX_in i
          have LI := nmL_len i
          refine (names_all i _).mono ?_
          rintro e w2 ⟨no, N, rfl, T2, NC⟩
          have D1 := hide (T2.at C1.out)
          have D2 := hide (T2.at C2.out)
          have HT2 : Hid (Touch (fun k => k = A + 1) w1 w2) := hide (HTL.out.trans (T2.mono fun _ _ h => h.elim) fun _ _ h => h)
          have HW2 := hide (HTW.out.tr T2)
          have HNC := hide NC
          clear T2 NC C1 C2 HTL HTW c1 c2 m1 m2 hb1 hb2
          generalize nmX i = x0 at *
          generalize nmL i = NL at *
          obtain ⟨nl, hnl⟩ : ∃ nl, nl = NL.length := ⟨_, rfl⟩
          rw [← hnl] at FD MS LI HNC ⊢
          clear hnl
          go_wp2_with fail
          go_loopw [46] (fun s wv => ∃ k : Nat, s = .int .i64 (k : Int) ∧ k ≤ nl ∧ (∀ j, j < k → ((NL.getD j zS).toList == pt.toList) = false) ∧ wv = w2) (fun s _ => nl - (intOf s).toNat)
          case atStart => exact ⟨0, rfl, by omega, fun j hj => absurd hj (by omega), rfl⟩
          case round =>
            obtain ⟨k, rfl, hk, hbef, hwv⟩ := hrel
            subst hwv
            by_cases hlk : k < nl
            · have hlkz : (k : Int) < (nl : Int) := by omega
              obtain ⟨rfl, hN, hc⟩ := HNC.out k hlk
              have c3 := hc _ (Touch.refl _ _)
              have FDk := FD.out k hlk hbef
              generalize hnk : NL.getD k zS = nk at *
              replace hnk := hide hnk
              cases heq2 : (nk.toList == pt.toList) with
              | true =>
                have nf := FDk heq2
                have wx : wrap64 (x0 + (k : Int)) = x0 + (k : Int) := wr_in _ (by omega)
                have NX2 : Hid (ppS P (i + 1) = some (stF f i (x0 + (k : Int)))) := hide (by rw [nx, nf]; rfl)
                have p1 := f10_cells D2.out i hlt
                have p2 := wn_frozen D2.out i
                have D4 := heap_setCell_row (i := i) D2.out (.int .i64 (x0 + (k : Int)))
                rw [f10c_st f i (x0 + (k : Int)) hlt] at D4
                have tt := (Touch.refl (fun k => k = A + 1) wr).setCell (p := ⟨A + 1, i, none⟩) (fun _ => rfl) (.int .i64 (x0 + (k : Int)))
                have D3 := hide ((tt.block A (lt_of_heap D1.out) (by omega)).trans D1.out)
                have HD4 := hide D4
                have HT4 := hide ((HT2.out).trans tt fun _ _ h => h)
                clear D4 tt nx NF
                clear hbef FD FDk MS HNC CPi
                go_wp2_with fail
                exact ⟨⟨i + 1, _, by go_num, by omega, NX2.out, D3.out, HD4.out, HT4.out⟩, by simp [intOf]; omega⟩
              | false =>
                have hb2 : ∀ j, j < k + 1 → ((NL.getD j zS).toList == pt.toList) = false := fun j hj => by
                  by_cases hjk : j = k
                  · rw [hjk, hnk.out]; exact heq2
                  · exact hbef j (by omega)
                have HB2 := hide hb2
                clear hbef FD FDk MS HNC CPi nx NF hb2
                go_wp2_with fail
                go_roundw
                case rel => exact ⟨k + 1, by go_num, by omega, HB2.out, trivial⟩
                case measure => simp [intOf]; omega
            · have hlkz : ¬ (k : Int) < (nl : Int) := by omega
              obtain rfl : k = nl := by omega
              have nf := MS.out hbef
              clear hbef FD MS HNC
              go_wp2_with fail
              refine (CPi.out _ (by omega) HW2.out).mono ?_
              rintro e w3 ⟨rfl, T3⟩
              have E1 := hide (T3.at D1.out)
              have E2 := hide (T3.at D2.out)
              have HT3 : Hid (Touch (fun k => k = A + 1) w1 w3) := hide (HT2.out.trans (T3.mono fun _ _ h => h.elim) fun _ _ h => h)
              have HF : Hid (Calm w (w3.setRow A Z)) := hide (row_touch (HW2.out.tr T3) (by omega) _)
              clear T3 D1 D2 HT2 HW2 CPi
              by_cases hk0 : k = 0
              · subst hk0
                rw [if_pos rfl] at nf
                generalize pN pt = o at *
                cases o with
                | none =>
                  have HR : Hid (R = f0) := hide (NF.out (by rw [nx, nf]; rfl))
                  clear nx NF nf
                  simp only [pnV]
                  go_wp2_with (first | refine wpList_built rfl 62 _ rfl Z (by rw [HZ.out]; kernel_rfl) ?_ | (refine wpList_store_whole rfl rfl 62 (.tmp 2) (.tmp 72) rfl A Z ?_ ?_ 62 z10 ?_ zi.out zs.out za.out ?_; rfl; rfl; exact E1.out))
                  rw [Exit.noGoto_ret]
                  refine bodyPost_ret (results_cell_row rfl _ _ _ _ _ _ _ rfl (setRow_heap _ _ _ _ _ _ E1.out) Tryd.underlying62 rfl zi.out) rfl ?_
                  exact ⟨by rw [HR.out, HZ.out]; rfl, HF.out⟩
                | some x =>
                  simp only [pnV]
                  have NX2 : Hid (ppS P (i + 1) = some (stF f i x)) := hide (by rw [nx, nf]; rfl)
                  have p1 := f10_cells E2.out i hlt
                  have p2 := wn_frozen E2.out i
                  have D4 := heap_setCell_row (i := i) E2.out (.int .i64 x)
                  rw [f10c_st f i x hlt] at D4
                  have tt := (Touch.refl (fun k => k = A + 1) w3).setCell (p := ⟨A + 1, i, none⟩) (fun _ => rfl) (.int .i64 x)
                  have D3 := hide ((tt.block A (lt_of_heap E1.out) (by omega)).trans E1.out)
                  have HD4 := hide D4
                  have HT4 := hide ((HT3.out).trans tt fun _ _ h => h)
                  clear D4 tt nx NF
                  clear nf
                  go_wp2_with fail
                  go_roundw
                  case rel => exact ⟨i + 1, _, by go_num, by omega, NX2.out, D3.out, HD4.out, HT4.out⟩
                  case measure => simp [intOf]; omega
              · rw [if_neg hk0] at nf
                have hkz : (0 : Int) < (k : Int) := by omega
                have HR : Hid (R = f0) := hide (NF.out (by rw [nx, nf]; rfl))
                clear nx NF nf hk0
                generalize pN pt = o at *
                cases o with
                | none =>
                  simp only [pnV]
                  go_wp2_with (first | refine wpList_built rfl 62 _ rfl Z (by rw [HZ.out]; kernel_rfl) ?_ | (refine wpList_store_whole rfl rfl 62 (.tmp 2) (.tmp 72) rfl A Z ?_ ?_ 62 z10 ?_ zi.out zs.out za.out ?_; rfl; rfl; exact E1.out))
                  rw [Exit.noGoto_ret]
                  refine bodyPost_ret (results_cell_row rfl _ _ _ _ _ _ _ rfl (setRow_heap _ _ _ _ _ _ E1.out) Tryd.underlying62 rfl zi.out) rfl ?_
                  exact ⟨by rw [HR.out, HZ.out]; rfl, HF.out⟩
                | some x =>
                  simp only [pnV]
                  go_wp2_with (first | refine wpList_built rfl 62 _ rfl Z (by rw [HZ.out]; kernel_rfl) ?_ | (refine wpList_store_whole rfl rfl 62 (.tmp 2) (.tmp 72) rfl A Z ?_ ?_ 62 z10 ?_ zi.out zs.out za.out ?_; rfl; rfl; exact E1.out))
                  rw [Exit.noGoto_ret]
                  refine bodyPost_ret (results_cell_row rfl _ _ _ _ _ _ _ rfl (setRow_heap _ _ _ _ _ _ E1.out) Tryd.underlying62 rfl zi.out) rfl ?_
                  exact ⟨by rw [HR.out, HZ.out]; rfl, HF.out⟩
      · have hltz : ¬ (i : Int) < 10 := by omega
        obtain rfl : i = 10 := by omega
        obtain ⟨FF, hFF⟩ : ∃ FF : Array Value, FF = f10c f := ⟨_, rfl⟩
        have fs : Hid (z10.size = FF.size) := hide (by rw [hFF]; rfl)
        have fa : Hid (FF.all (·.oneCell') = true) := hide (by rw [hFF]; kernel_rfl)
        have fi : Hid ((Tryd.prog.info? 62).map (·.size) = some FF.size) := hide (by rw [hFF]; kernel_rfl)
        have HR : Hid (f10c R = FF) := hide (by rw [HF1.out f (by rw [HN2.out]; exact hS), hFF])
        have HF : Hid (Calm w (wr.setRow A FF)) := hide (row_touch TW (by omega) _)
        rw [← hFF] at C2
        replace C1 := hide C1
        replace C2 := hide C2
        clear TL TW hS hFF NX NN IXW HP
        go_wp2_with (first | (refine wpList_load_row rfl 62 (.tmp 3) rfl (A + 1) ?_ 62 FF (0, 0) _ ?_ Tryd.underlying62 rfl fi.out ?_; rfl; exact C2.out) | (refine wpList_store_whole rfl rfl 62 (.tmp 2) (.tmp 77) rfl A FF ?_ ?_ 62 z10 ?_ fi.out fs.out fa.out ?_; rfl; rfl; exact C1.out))
        refine bodyPost_ret (results_cell_row rfl _ _ _ _ _ _ _ rfl (setRow_heap _ _ _ _ _ _ C1.out) Tryd.underlying62 rfl fi.out) rfl ?_
        exact ⟨by rw [HR.out], HF.out⟩
  · have hnz : ¬ (n : Int) = 20 := by omega
    have HR : Hid (R = f0) := hide (HF0.out (by rw [HN.out, if_neg hn20]))
    have HF : Hid (Calm w (w1.setRow A Z)) := hide (row_touch TT.out (by omega) _)
    clear HN NX NN
    go_wp2_with (first | refine wpList_built rfl 62 _ rfl Z (by rw [HZ.out]; kernel_rfl) ?_ | (refine wpList_store_whole rfl rfl 62 (.tmp 2) (.tmp 19) rfl A Z ?_ ?_ 62 z10 ?_ zi.out zs.out za.out ?_; rfl; rfl; exact B1.out))
    rw [Exit.noGoto_ret]
    refine bodyPost_ret (results_cell_row rfl _ _ _ _ _ _ _ rfl (setRow_heap _ _ _ _ _ _ B1.out) Tryd.underlying62 rfl zi.out) rfl ?_
    exact ⟨by rw [HR.out, HZ.out]; rfl, HF.out⟩

end Go.Proofs.YtjambfncemlenaaDoor
