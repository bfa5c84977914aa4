/- The document's Read. -/
import Derived.Test.YtfeifobljgmkkaaDoorFRLen2
namespace Go.Proofs.YtfeifobljgmkkaaDoor
open Go.RowKit Crcx

set_option maxRecDepth 100000 in
set_option maxHeartbeats 400000 in
theorem rread_empty (ao : Option Addr) (cap : Nat) (w : World) : Calls Tryd.prog 22 #[.slice ao 0 cap] w (ReadEnd w ⟨130, 0, [], 0⟩) := by
  go_enter Tryd.func22, Tryd.ntmps22
  go_wp2_with fail
  refine bodyPost_ret (v := .tuple #[.agg #[.int .u8 0, .slice none 0 0], .int .i64 0, .int .i64 130]) (by simp [results, Tryd.results22, go_sem]) rfl ?_
  exact ⟨_, _, _, rfl, New.nil ((Touch.refl _ _).alloc _)⟩

set_option maxRecDepth 100000 in
set_option maxHeartbeats 1000000 in
theorem rread_err (t : Txt) (er : Nat) (he : lenF (t.xs.drop 1) = (0, er)) (h0 : er ≠ 0) (hne : t.xs ≠ []) (w : World) (ho : t.Ok w) (hc : t.xs.length ≤ t.cap) (hb : t.xs.length ≤ 140737488351232) : Calls Tryd.prog 22 #[.slice t.ao t.xs.length t.cap] w (ReadEnd w ⟨er, 0, [], 0⟩) := by
  have hl : 0 < t.xs.length := List.length_pos_iff.2 hne
  have hl0 : ¬ (t.xs.length : Int) = 0 := by omega
  have hl1 : ¬ t.xs.length = 0 := by omega
  obtain ⟨u, u1, u2, u3, u4, u5⟩ := cut_l ho hc 1 (by omega)
  have LN := hide (fun (W : World) (hW : Touch (fun _ => False) w W) => rlength_any u.ao u.xs u.cap W (u3.touch hW).seg u3.in8 (by omega))
  unfold LenEnd at LN
  rw [u1, he] at LN
  simp only [if_neg h0] at LN
  have u5' : ∀ W, (Instr.slice 22 (.slice t.ao t.xs.length t.cap) (some (.int .i64 1)) none none).run Tryd.prog W = .ok (.slice u.ao u.xs.length u.cap) W := u5
  have h0' : ¬ (er : Int) = 0 := by omega
  rw [← u1] at LN
  generalize t.xs.length = xl at *
  generalize t.ao = ao at *
  generalize t.cap = cap at *
  generalize u.xs.length = ul at *
  generalize u.ao = uo at *
  generalize u.cap = uc at *
  clear u1 u2 u3 u4 ho u5 he
  go_enter Tryd.func22, Tryd.ntmps22
  go_wp2_with fail
  have T0 : Touch (fun _ => False) w (w.alloc (.cells #[.int .u8 0, .slice none 0 0] 36)) := (Touch.refl _ _).alloc _
  have B0 := heap_alloc_last w (.cells #[.int .u8 0, .slice none 0 0] 36)
  generalize w.alloc (.cells #[.int .u8 0, .slice none 0 0] 36) = w0 at *
  generalize hgg : w.heap.size = g0 at B0 ⊢
  have hlo : w.heap.size ≤ g0 := Nat.le_of_eq hgg
  clear hgg
  refine (LN.out w0 T0).mono ?_
  rintro e w1 ⟨rfl, t1⟩
  have B1 := t1.heap B0 (fun h => h)
  have T1 := T0.trans t1 (fun _ _ h => h)
  obtain ⟨c0, c1, f0, f1⟩ := cell_two B1
  have T2 := hide (fun (u v : Value) => (T1.setCell (p := ⟨g0, 0, none⟩) (fun h => by simp at h; omega) u).setCell (p := ⟨g0, 1, none⟩) (fun h => by simp at h; omega) v)
  clear LN B0 T0 t1
  go_wp2_with fail
  have B2 := two_put B1 (.int .u8 0) (.slice none 0 0)
  have T3 := T2.out (.int .u8 0) (.slice none 0 0)
  generalize (w1.setCell ⟨g0, 0, none⟩ (.int .u8 0)).setCell ⟨g0, 1, none⟩ (.slice none 0 0) = w2 at *
  obtain ⟨d0, d1⟩ := cells2 B2
  refine bodyPost_ret (v := .tuple #[.agg #[.int .u8 0, .slice none 0 0], .int .i64 0, .int .i64 (er : Int)]) (by simp [results, Tryd.results22, go_sem, d0, d1]) rfl ?_
  exact ⟨_, _, _, rfl, New.nil T3⟩

set_option maxRecDepth 100000 in
set_option maxHeartbeats 2000000 in
theorem rread_len (t : Txt) (n : Nat) (he : lenF (t.xs.drop 1) = (n, 0)) (hn : n ≤ 268435456) (hne : t.xs ≠ []) (w : World) (ho : t.Ok w) (hc : t.xs.length ≤ t.cap) (hb : t.xs.length ≤ 140737488351232) : Calls Tryd.prog 22 #[.slice t.ao t.xs.length t.cap] w (ReadEnd w (readF t.xs)) := by
  obtain ⟨i0, hi, hz0, hz1, hz2⟩ := info_parts Tryd.info5
  have hl : 0 < t.xs.length := List.length_pos_iff.2 hne
  have hl0 : ¬ (t.xs.length : Int) = 0 := by omega
  have hl1 : ¬ t.xs.length = 0 := by omega
  obtain ⟨G, hG⟩ : ∃ G, G = readF t.xs := ⟨_, rfl⟩
  rw [← hG]
  have hG1 : G = if t.xs.length < fsize n then ⟨130, 0, [], 0⟩ else if sumOf ((t.xs.drop (fsize n - 4)).take 4) ≠ more 0 (nats (t.xs.take (fsize n - 4))) then ⟨132, 0, [], 0⟩ else ⟨0, t.xs.getD 0 0, (t.xs.take (fsize n - 4)).drop (fsize n - 4 - n), fsize n⟩ := by
    rw [hG]; unfold readF; rw [if_neg hne, he, if_neg (by simp)]
  have HG := hide hG1
  clear hG hG1
  obtain ⟨u, u1, u2, u3, u4, u5⟩ := cut_l ho hc 1 (by omega)
  have LN := hide (fun (W : World) (hW : Touch (fun _ => False) w W) => rlength_any u.ao u.xs u.cap W (u3.touch hW).seg u3.in8 (by omega))
  unfold LenEnd at LN
  rw [u1, he] at LN
  simp only [if_true] at LN
  have u5' : ∀ W, (Instr.slice 22 (.slice t.ao t.xs.length t.cap) (some (.int .i64 1)) none none).run Tryd.prog W = .ok (.slice u.ao u.xs.length u.cap) W := u5
  rw [← u1] at LN
  generalize u.xs.length = ul at *
  generalize u.ao = uo at *
  generalize u.cap = uc at *
  clear u1 u2 u3 u4 u5 he
  have hf6 := fsize_lt n
  have hf10 := fsize_le hn
  have hk5 := numb5 hn
  have hkp := numb_pos n
  have hfk : fsize n = 1 + (numb n).length + n + 4 := rfl
  obtain ⟨k, hk⟩ : ∃ k, k = (numb n).length := ⟨_, rfl⟩
  rw [← hk] at LN hfk hk5 hkp
  clear hk
  go_enter Tryd.func22, Tryd.ntmps22
  go_wp2_with fail
  have T0 : Touch (fun _ => False) w (w.alloc (.cells #[.int .u8 0, .slice none 0 0] 36)) := (Touch.refl _ _).alloc _
  have B0 := heap_alloc_last w (.cells #[.int .u8 0, .slice none 0 0] 36)
  generalize w.alloc (.cells #[.int .u8 0, .slice none 0 0] 36) = w0 at *
  generalize hgg : w.heap.size = g0 at B0 ⊢
  have hlo : w.heap.size ≤ g0 := Nat.le_of_eq hgg
  clear hgg
  refine (LN.out w0 T0).mono ?_
  rintro e w1 ⟨rfl, t1⟩
  have B1 := t1.heap B0 (fun h => h)
  have T1 := T0.trans t1 (fun _ _ h => h)
  obtain ⟨c0, c1, f0, f1⟩ := cell_two B1
  clear LN B0 T0 t1 u5'
  have e1 : (1 : Int) + (k : Int) = ((1 + k : Nat) : Int) := by omega
  have e2 : ((1 + k : Nat) : Int) + (n : Int) = ((fsize n - 4 : Nat) : Int) := by omega
  have e3 : ((fsize n - 4 : Nat) : Int) + 4 = (fsize n : Int) := by omega
  have hk1b : ((1 + k : Nat) : Int) ≤ 6 := by omega
  have heb : ((fsize n - 4 : Nat) : Int) ≤ 268435466 := by omega
  have hfb : (fsize n : Int) ≤ 268435466 := by omega
  have hkb : (k : Int) ≤ 5 := by omega
  have hnb : (n : Int) ≤ 268435456 := by omega
  by_cases hsh : t.xs.length < fsize n
  · have T2 := hide (fun (u v : Value) => (T1.setCell (p := ⟨g0, 0, none⟩) (fun h => by simp at h; omega) u).setCell (p := ⟨g0, 1, none⟩) (fun h => by simp at h; omega) v)
    have hsh' : (t.xs.length : Int) < (fsize n : Int) := by omega
    have hh := HG.out
    rw [if_pos hsh] at hh
    have HH := hide hh
    clear hh HG hfk hf6 hf10 hk5 hkp hsh
    generalize fsize n - 4 = m at *
    generalize fsize n = fs at *
    generalize 1 + k = k1 at *
    go_wp2_with fail
    have B2 := two_put B1 (.int .u8 0) (.slice none 0 0)
    have T3 := T2.out (.int .u8 0) (.slice none 0 0)
    generalize (w1.setCell ⟨g0, 0, none⟩ (.int .u8 0)).setCell ⟨g0, 1, none⟩ (.slice none 0 0) = w2 at *
    obtain ⟨d0, d1⟩ := cells2 B2
    refine bodyPost_ret (v := .tuple #[.agg #[.int .u8 0, .slice none 0 0], .int .i64 0, .int .i64 130]) (by simp [results, Tryd.results22, go_sem, d0, d1]) rfl ?_
    rw [HH.out]
    exact ⟨_, _, _, rfl, New.nil T3⟩
  · have hsh' : ¬ (t.xs.length : Int) < (fsize n : Int) := by omega
    have hG2 := HG.out
    rw [if_neg hsh] at hG2
    have o1 := ho.touch T1
    obtain ⟨a, a1, a2, a3, a4, a5⟩ := cut_h o1 hc (fsize n - 4) (by omega)
    obtain ⟨b, b1, b2, b3, b4, b5⟩ := cut_lh o1 hc (1 + k) (fsize n - 4) (by omega) (by omega)
    have hbody : (t.xs.take (fsize n - 4)).drop (fsize n - 4 - n) = b.xs := by
      rw [b1, List.drop_take, show fsize n - 4 - n = 1 + k by omega]
    have SM := hide (fun (W : World) (hW : Touch (fun _ => False) w1 W) => rsum_any a.ao a.xs a.cap W (a3.touch hW).seg a3.in8 a3.len)
    have hq : ∀ i, i < 4 → ∃ q : Nat, q < 256 ∧ t.xs.getD (fsize n - 4 + i) 0 = (q : Int) := fun i hi => by
      have := ho.in8.at (fsize n - 4 + i)
      exact ⟨(t.xs.getD (fsize n - 4 + i) 0).toNat, by omega, by omega⟩
    obtain ⟨q0, l0, hq0⟩ := hq 0 (by omega)
    obtain ⟨q1, l1, hq1⟩ := hq 1 (by omega)
    obtain ⟨q2, l2, hq2⟩ := hq 2 (by omega)
    obtain ⟨q3, l3, hq3⟩ := hq 3 (by omega)
    rw [Nat.add_zero] at hq0
    have hsum : sumOf ((t.xs.drop (fsize n - 4)).take 4) = q0 + 256 * q1 + 65536 * q2 + 16777216 * q3 := by
      have ge : ∀ i, i < 4 → ((t.xs.drop (fsize n - 4)).take 4).getD i 0 = t.xs.getD (fsize n - 4 + i) 0 := fun i hi => by
        rw [List.getD_eq_getElem?_getD, List.getD_eq_getElem?_getD, List.getElem?_take, if_pos hi, List.getElem?_drop]
      unfold sumOf word
      rw [ge 0 (by omega), ge 1 (by omega), ge 2 (by omega), ge 3 (by omega), Nat.add_zero, hq0, hq1, hq2, hq3]
      simp
    rw [hbody, hsum, ← a1] at hG2
    obtain ⟨B, off, hao⟩ := o1.seg.addr hl
    have hsg := fun (W : World) (hW : Touch (fun _ => False) w1 W) => (o1.touch hW).seg
    simp only [hao] at hsg
    have hcell := fun (W : World) (hW : Touch (fun _ => False) w1 W) => (hsg W hW).at 0 hl
    have p0 := fun (W : World) (hW : Touch (fun _ => False) w1 W) => (hsg W hW).at (fsize n - 4) (by omega)
    have p1 := fun (W : World) (hW : Touch (fun _ => False) w1 W) => (hsg W hW).at (fsize n - 4 + 1) (by omega)
    have p2 := fun (W : World) (hW : Touch (fun _ => False) w1 W) => (hsg W hW).at (fsize n - 4 + 2) (by omega)
    have p3 := fun (W : World) (hW : Touch (fun _ => False) w1 W) => (hsg W hW).at (fsize n - 4 + 3) (by omega)
    rw [hq0] at p0
    rw [hq1] at p1
    rw [hq2] at p2
    rw [hq3] at p3
    simp only [Nat.add_zero] at hcell
    have hne0 : g0 ≠ B := by
      have := ho.seg.lt _ hao hne
      simp only at this; omega
    rw [hao] at a5 b5 ⊢
    have HG2 := hide hG2
    have hx0 : ((fsize n - 4 : Nat) : Int) < (t.xs.length : Int) := by omega
    have hx1 : ((fsize n - 4 : Nat) : Int) + 1 < (t.xs.length : Int) := by omega
    have hx2 : ((fsize n - 4 : Nat) : Int) + 2 < (t.xs.length : Int) := by omega
    have hx3 : ((fsize n - 4 : Nat) : Int) + 3 < (t.xs.length : Int) := by omega
    have hBT : ∀ W, Touch (fun _ => False) w1 W → W.heap[g0]? = some (.cells #[.int .u8 0, .slice none 0 0] 36 (0, 0)) := fun W hW => hW.heap B1 (fun h => h)
    have HBT := hide hBT
    have hl' : (0 : Int) < (t.xs.length : Int) := by omega
    have hblen : b.xs.length ≤ 268435466 := by rw [b2]; omega
    have SRC := hide (fun (W : World) (hW : Touch (fun _ => False) w1 W) => (b3.touch hW).seg.src (P := Tryd.prog) Tryd.underlying22 b.cap)
    have P0 := hide p0
    have P1 := hide p1
    have P2 := hide p2
    have P3 := hide p3
    clear hG2 HG hBT a1 a2 a3 a4 b1 b2 b3 b4 o1 ho hf6 hf10 hfk hk5 hkp hsh hc hb hne hao hq hq0 hq1 hq2 hq3 hsum hbody hsg p0 p1 p2 p3
    generalize b.ao = bo at *
    generalize b.cap = bc at *
    generalize b.xs = bxs at *
    generalize more 0 (nats a.xs) = s at *
    generalize a.xs.length = al at *
    generalize a.ao = aa at *
    generalize a.cap = ac at *
    generalize t.xs.getD 0 0 = c at *
    generalize t.xs.length = xl at *
    generalize t.cap = cap at *
    generalize fsize n - 4 = m at *
    generalize fsize n = fs at *
    generalize 1 + k = k1 at *
    have HK := hide hcell
    have HT1 := hide T1
    clear hcell T1 u a b t c0 c1 f0 f1
    go_wp2_with fail
    refine (SM.out _ (Touch.refl _ _)).mono ?_
    rintro e w' ⟨rfl, rfl⟩
    have c0 := P0.out w1 (Touch.refl _ _)
    have c1 := P1.out w1 (Touch.refl _ _)
    have c2 := P2.out w1 (Touch.refl _ _)
    have c3 := P3.out w1 (Touch.refl _ _)
    clear SM P0 P1 P2 P3
    have hSI : (q0 : Int) + (q1 : Int) * 256 + (q2 : Int) * 65536 + (q3 : Int) * 16777216 = ((q0 + 256 * q1 + 65536 * q2 + 16777216 * q3 : Nat) : Int) := by omega
    generalize q0 + 256 * q1 + 65536 * q2 + 16777216 * q3 = S at *
    go_wp2_with fail
    go_quiet (fail)
    have td : Touch (fun _ => False) w1 (w1.drewN nq) := Touch.drewN (Touch.refl _ _) nq
    have B3 := HBT.out _ td
    generalize w1.drewN nq = w3 at *
    obtain ⟨d0, d1, f0, f1⟩ := cell_two B3
    clear c0 c1 c2 c3
    by_cases hss : S = s
    · subst hss
      have hB3 := HK.out _ td
      have hg0 : g0 < w3.heap.size := lt_of_heap B3
      have hw2 : IntKind.i64.wrap ((m : Int) + 4) = (fs : Int) := by rw [IntKind.wrap_i64]; omega
      have hw3 : IntKind.i64.wrap ((1 : Int) + (k : Int)) = (k1 : Int) := by rw [IntKind.wrap_i64]; omega
      have hw4 : IntKind.i64.wrap (k1 : Int) = (k1 : Int) := by rw [IntKind.wrap_i64]; omega
      have hw5 : IntKind.i64.wrap (fs : Int) = (fs : Int) := by rw [IntKind.wrap_i64]; omega
      have bb1 : ([] : List Int).length + bxs.length ≤ maxLen := by unfold maxLen; simp only [List.length_nil]; omega
      have bb2 : (([] : List Int).length + bxs.length) * 1 ≤ 140737488355328 := by simp only [List.length_nil]; omega
      have HB1 := hide bb1
      have HB2 := hide bb2
      clear bb1 bb2 d0 d1 f0 f1
      go_wp2_with fail
      go_region_held3 (fun W => W.cell? ⟨B, off, none⟩ = some (.int .u8 c)) (go_keep) (first | (refine step_append_row rfl (.const (.slice none 0 0)) (.tmp 80) 22 22 rfl 5 i0 (.int .u8 0) .u8 1 Tryd.underlying22 hi hz0 hz1 hz2 rfl _ [] rfl (Row.nil _ _ _) _ bxs rfl (SRC.out _ td.drew) HB1.out HB2.out ?_; intro fo fn fc w4 R4 G4; have N4 : New w3.drew w4 (.slice fo fn fc) bxs := (New.nil (Touch.refl _ _)).of_grew R4 G4; have T4 := td.drew.trans N4.touch (fun _ _ h => h); have B4 := HBT.out _ T4; obtain ⟨e0', e1', h0, h1⟩ := cell_two B4; have hB4 := HK.out _ T4))
      go_wp2_with fail
      have B5 := two_put B4 (.int .u8 c) (.slice fo fn fc)
      have T5 : Touch (fun k => k = g0) w4 ((w4.setCell ⟨g0, 0, none⟩ (.int .u8 c)).setCell ⟨g0, 1, none⟩ (.slice fo fn fc)) := ((Touch.refl (fun k => k = g0) w4).setCell (p := ⟨g0, 0, none⟩) (fun _ => rfl) _).setCell (p := ⟨g0, 1, none⟩) (fun _ => rfl) _
      have hsz3 : w1.heap.size ≤ w3.heap.size := td.size
      have hsz1 : w.heap.size ≤ w1.heap.size := HT1.out.size
      have N5 : New w ((w4.setCell ⟨g0, 0, none⟩ (.int .u8 c)).setCell ⟨g0, 1, none⟩ (.slice fo fn fc)) (.slice fo fn fc) bxs :=
        ⟨N4.row.touch T5 (fun g hg e => by have h := N4.lo g hg; have h' : w3.heap.size ≤ g := h; omega), fun g hg => by have h := N4.lo g hg; have h' : w3.heap.size ≤ g := h; omega, (HT1.out.trans T4 (fun _ _ h => h)).trans T5 (fun k hk e => by omega)⟩
      generalize (w4.setCell ⟨g0, 0, none⟩ (.int .u8 c)).setCell ⟨g0, 1, none⟩ (.slice fo fn fc) = w5 at *
      obtain ⟨d0, d1⟩ := cells2 B5
      refine bodyPost_ret (v := .tuple #[.agg #[.int .u8 c, .slice fo fn fc], .int .i64 (fs : Int), .int .i64 0]) (by simp [results, Tryd.results22, go_sem, d0, d1]) rfl ?_
      have hh := HG2.out
      rw [if_neg (by simp)] at hh
      rw [hh]
      exact ⟨_, _, _, rfl, N5⟩
    · have hss' : ¬ (s : Int) = (S : Int) := by omega
      have T4 := hide (fun (u v : Value) => ((HT1.out.trans td (fun _ _ h => h)).setCell (p := ⟨g0, 0, none⟩) (fun h => by simp at h; omega) u).setCell (p := ⟨g0, 1, none⟩) (fun h => by simp at h; omega) v)
      go_wp2_with fail
      have B4 := two_put B3 (.int .u8 0) (.slice none 0 0)
      have T5 := T4.out (.int .u8 0) (.slice none 0 0)
      generalize (w3.setCell ⟨g0, 0, none⟩ (.int .u8 0)).setCell ⟨g0, 1, none⟩ (.slice none 0 0) = w4 at *
      clear d0 d1
      obtain ⟨d0, d1⟩ := cells2 B4
      refine bodyPost_ret (v := .tuple #[.agg #[.int .u8 0, .slice none 0 0], .int .i64 0, .int .i64 132]) (by simp [results, Tryd.results22, go_sem, d0, d1]) rfl ?_
      have hh := HG2.out
      rw [if_pos hss] at hh
      rw [hh]
      exact ⟨_, _, _, rfl, New.nil T5⟩

/-- The document's Read. -/
theorem rread_any (t : Txt) (w : World) (ho : t.Ok w) (hc : t.xs.length ≤ t.cap) (hb : t.xs.length ≤ 140737488351232) : Calls Tryd.prog 22 #[.slice t.ao t.xs.length t.cap] w (ReadEnd w (readF t.xs)) := by
  by_cases hne : t.xs = []
  · have h := rread_empty t.ao t.cap w
    rw [hne]
    exact h
  · by_cases he : (lenF (t.xs.drop 1)).2 = 0
    · obtain ⟨n, hn⟩ : ∃ n, lenF (t.xs.drop 1) = (n, 0) := ⟨(lenF (t.xs.drop 1)).1, by rw [← he]⟩
      exact rread_len t n hn (lenF_ok (fun x hx => ho.in8 x (List.mem_of_mem_drop hx)) hn).1 hne w ho hc hb
    · have h0 := lenF_err _ he
      have e : readF t.xs = ⟨(lenF (t.xs.drop 1)).2, 0, [], 0⟩ := by unfold readF; rw [if_neg hne, if_pos he]
      rw [e]
      exact rread_err t _ (by rw [← h0]) he hne w ho hc hb

end Go.Proofs.YtfeifobljgmkkaaDoor
