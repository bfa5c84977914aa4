/- The program's Read. -/
import Derived.Test.YtfeifobljgmkkaaDoorFLen2
import Derived.Test.YtfeifobljgmkkaaDoorTake
namespace Go.Proofs.YtfeifobljgmkkaaDoor
open Go.RowKit Crcx

/-- What Read answers. -/
def ReadEnd (w : World) (g : Got) (r : Ending) (w' : World) : Prop :=
  ∃ bo n c, r = .returned (.tuple #[.agg #[.int .u8 g.tag, .slice bo n c], .int .i64 (g.size : Int), .int .i64 (g.err : Int)]) ∧ New w w' (.slice bo n c) g.body

theorem New.nil {w w' : World} (h : Touch (fun _ => False) w w') : New w w' (.slice none 0 0) [] := ⟨Row.nil _ _ _, fun g hg => by simp [Value.ownBlock] at hg, h⟩

theorem two_put {w : World} {b : Nat} {u v : Value} {t : TypeId} (h : w.heap[b]? = some (.cells #[u, v] t (0, 0))) (x y : Value) : ((w.setCell ⟨b, 0, none⟩ x).setCell ⟨b, 1, none⟩ y).heap[b]? = some (.cells #[x, y] t (0, 0)) :=
  heap_setCell_row (i := 1) (heap_setCell_row (i := 0) h x) y

theorem from_txt (t : Txt) (h4 : t.xs.length = 4) (w : World) (ho : t.Ok w) :
    Calls Tryd.prog 36 #[.slice t.ao t.xs.length t.cap] w fun e w' => e = .returned (.tuple #[.int .u32 ((sumOf t.xs : Nat) : Int), .bool true]) ∧ Touch (fun _ => False) w w' := by
  obtain ⟨ao, cap, xs⟩ := t
  match xs, h4 with
  | [x0, x1, x2, x3], _ =>
    obtain ⟨B, off, e⟩ := ho.seg.addr (by simp)
    simp only at e
    subst e
    have a0 := ho.in8 x0 (by simp)
    have a1 := ho.in8 x1 (by simp)
    have a2 := ho.in8 x2 (by simp)
    have a3 := ho.in8 x3 (by simp)
    obtain ⟨n0, rfl⟩ := Int.eq_ofNat_of_zero_le a0.1
    obtain ⟨n1, rfl⟩ := Int.eq_ofNat_of_zero_le a1.1
    obtain ⟨n2, rfl⟩ := Int.eq_ofNat_of_zero_le a2.1
    obtain ⟨n3, rfl⟩ := Int.eq_ofNat_of_zero_le a3.1
    exact from_four B off n0 n1 n2 n3 cap w (ho.seg.at 0 (by simp)) (ho.seg.at 1 (by simp)) (ho.seg.at 2 (by simp)) (ho.seg.at 3 (by simp)) (by omega) (by omega) (by omega) (by omega)

set_option maxRecDepth 100000 in
set_option maxHeartbeats 400000 in
theorem read_empty (ao : Option Addr) (cap : Nat) (w : World) : Calls Tryd.prog 21 #[.slice ao 0 cap] w (ReadEnd w ⟨130, 0, [], 0⟩) := by
  go_enter Tryd.func21, Tryd.ntmps21
  go_wp2_with fail
  refine bodyPost_ret (v := .tuple #[.agg #[.int .u8 0, .slice none 0 0], .int .i64 0, .int .i64 130]) (by simp [results, Tryd.results21, go_sem]) rfl ?_
  exact ⟨_, _, _, rfl, New.nil ((Touch.refl _ _).alloc _)⟩

set_option maxRecDepth 100000 in
set_option maxHeartbeats 1000000 in
theorem read_err (t : Txt) (er : Nat) (he : lenF (t.xs.drop 1) = (0, er)) (h0 : er ≠ 0) (hne : t.xs ≠ []) (w : World) (ho : t.Ok w) (hc : t.xs.length ≤ t.cap) (hb : t.xs.length ≤ 140737488351232) : Calls Tryd.prog 21 #[.slice t.ao t.xs.length t.cap] w (ReadEnd w ⟨er, 0, [], 0⟩) := by
  have hl : 0 < t.xs.length := List.length_pos_iff.2 hne
  have hl0 : ¬ (t.xs.length : Int) = 0 := by omega
  have hl1 : ¬ t.xs.length = 0 := by omega
  obtain ⟨u, u1, u2, u3, u4, u5⟩ := cut_l ho hc 1 (by omega)
  have LN := hide (fun (W : World) (hW : Touch (fun _ => False) w W) => length_any u W (u3.touch hW) u4 (by omega))
  rw [u1, he] at LN
  have u5' : ∀ W, (Instr.slice 22 (.slice t.ao t.xs.length t.cap) (some (.int .i64 1)) none none).run Tryd.prog W = .ok (.slice u.ao u.xs.length u.cap) W := u5
  have h0' : ¬ (er : Int) = 0 := by omega
  rw [← u1] at LN
  generalize t.xs.length = xl at *
  generalize t.ao = ao at *
  generalize t.cap = cap at *
  generalize u.xs.length = ul at *
  generalize u.ao = uo at *
  generalize u.cap = uc at *
  clear u1 u2 u3 u4 ho u5 he
  go_enter Tryd.func21, Tryd.ntmps21
  go_wp2_with fail
  have T0 : Touch (fun _ => False) w (w.alloc (.cells #[.int .u8 0, .slice none 0 0] 36)) := (Touch.refl _ _).alloc _
  have B0 := heap_alloc_last w (.cells #[.int .u8 0, .slice none 0 0] 36)
  generalize w.alloc (.cells #[.int .u8 0, .slice none 0 0] 36) = w0 at *
  generalize hgg : w.heap.size = g0 at B0 ⊢
  have hlo : w.heap.size ≤ g0 := Nat.le_of_eq hgg
  clear hgg
  refine (LN.out w0 T0).mono ?_
  rintro e w1 ⟨rfl, t1⟩
  have B1 := t1.heap B0 (fun h => h)
  have T1 := T0.trans t1 (fun _ _ h => h)
  obtain ⟨c0, c1, f0, f1⟩ := cell_two B1
  have T2 := hide (fun (u v : Value) => (T1.setCell (p := ⟨g0, 0, none⟩) (fun h => by simp at h; omega) u).setCell (p := ⟨g0, 1, none⟩) (fun h => by simp at h; omega) v)
  clear LN B0 T0 t1
  go_wp2_with fail
  have B2 := two_put B1 (.int .u8 0) (.slice none 0 0)
  have T3 := T2.out (.int .u8 0) (.slice none 0 0)
  generalize (w1.setCell ⟨g0, 0, none⟩ (.int .u8 0)).setCell ⟨g0, 1, none⟩ (.slice none 0 0) = w2 at *
  obtain ⟨d0, d1⟩ := cells2 B2
  refine bodyPost_ret (v := .tuple #[.agg #[.int .u8 0, .slice none 0 0], .int .i64 0, .int .i64 (er : Int)]) (by simp [results, Tryd.results21, go_sem, d0, d1]) rfl ?_
  exact ⟨_, _, _, rfl, New.nil T3⟩

set_option maxRecDepth 100000 in
set_option maxHeartbeats 2000000 in
theorem read_len (t : Txt) (n : Nat) (he : lenF (t.xs.drop 1) = (n, 0)) (hn : n ≤ 268435456) (hne : t.xs ≠ []) (w : World) (hT : Tab w) (ho : t.Ok w) (hc : t.xs.length ≤ t.cap) (hb : t.xs.length ≤ 140737488351232) : Calls Tryd.prog 21 #[.slice t.ao t.xs.length t.cap] w (ReadEnd w (readF t.xs)) := by
  have hl : 0 < t.xs.length := List.length_pos_iff.2 hne
  have hl0 : ¬ (t.xs.length : Int) = 0 := by omega
  have hl1 : ¬ t.xs.length = 0 := by omega
  obtain ⟨G, hG⟩ : ∃ G, G = readF t.xs := ⟨_, rfl⟩
  rw [← hG]
  have hG1 : G = if t.xs.length < fsize n then ⟨130, 0, [], 0⟩ else if sumOf ((t.xs.drop (fsize n - 4)).take 4) ≠ more 0 (nats (t.xs.take (fsize n - 4))) then ⟨132, 0, [], 0⟩ else ⟨0, t.xs.getD 0 0, (t.xs.take (fsize n - 4)).drop (fsize n - 4 - n), fsize n⟩ := by
    rw [hG]; unfold readF; rw [if_neg hne, he, if_neg (by simp)]
  have HG := hide hG1
  clear hG hG1
  obtain ⟨u, u1, u2, u3, u4, u5⟩ := cut_l ho hc 1 (by omega)
  have LN := hide (fun (W : World) (hW : Touch (fun _ => False) w W) => length_any u W (u3.touch hW) u4 (by omega))
  rw [u1, he] at LN
  have u5' : ∀ W, (Instr.slice 22 (.slice t.ao t.xs.length t.cap) (some (.int .i64 1)) none none).run Tryd.prog W = .ok (.slice u.ao u.xs.length u.cap) W := u5
  rw [← u1] at LN
  generalize u.xs.length = ul at *
  generalize u.ao = uo at *
  generalize u.cap = uc at *
  clear u1 u2 u3 u4 u5 he
  have FS := hide (fun W => fsize_any n hn W)
  have hf6 := fsize_lt n
  have hf10 := fsize_le hn
  go_enter Tryd.func21, Tryd.ntmps21
  go_wp2_with fail
  have T0 : Touch (fun _ => False) w (w.alloc (.cells #[.int .u8 0, .slice none 0 0] 36)) := (Touch.refl _ _).alloc _
  have B0 := heap_alloc_last w (.cells #[.int .u8 0, .slice none 0 0] 36)
  generalize w.alloc (.cells #[.int .u8 0, .slice none 0 0] 36) = w0 at *
  generalize hgg : w.heap.size = g0 at B0 ⊢
  have hlo : w.heap.size ≤ g0 := Nat.le_of_eq hgg
  clear hgg
  refine (LN.out w0 T0).mono ?_
  rintro e w1 ⟨rfl, t1⟩
  have B1 := t1.heap B0 (fun h => h)
  have T1 := T0.trans t1 (fun _ _ h => h)
  obtain ⟨c0, c1, f0, f1⟩ := cell_two B1
  clear LN B0 T0 t1 u5'
  go_wp2_with fail
  refine (FS.out _).mono ?_
  rintro e w' ⟨rfl, rfl⟩
  clear FS
  by_cases hsh : t.xs.length < fsize n
  · have T2 := hide (fun (u v : Value) => (T1.setCell (p := ⟨g0, 0, none⟩) (fun h => by simp at h; omega) u).setCell (p := ⟨g0, 1, none⟩) (fun h => by simp at h; omega) v)
    have hsh' : (t.xs.length : Int) < (fsize n : Int) := by omega
    go_wp2_with fail
    have B2 := two_put B1 (.int .u8 0) (.slice none 0 0)
    have T3 := T2.out (.int .u8 0) (.slice none 0 0)
    generalize (w1.setCell ⟨g0, 0, none⟩ (.int .u8 0)).setCell ⟨g0, 1, none⟩ (.slice none 0 0) = w2 at *
    obtain ⟨d0, d1⟩ := cells2 B2
    refine bodyPost_ret (v := .tuple #[.agg #[.int .u8 0, .slice none 0 0], .int .i64 0, .int .i64 130]) (by simp [results, Tryd.results21, go_sem, d0, d1]) rfl ?_
    have hh := HG.out
    rw [if_pos hsh] at hh
    rw [hh]
    exact ⟨_, _, _, rfl, New.nil T3⟩
  · have hsh' : ¬ (t.xs.length : Int) < (fsize n : Int) := by omega
    have hG2 := HG.out
    rw [if_neg hsh] at hG2
    have hm4 : (fsize n : Int) - 4 = ((fsize n - 4 : Nat) : Int) := by omega
    have o1 := ho.touch T1
    obtain ⟨a, a1, a2, a3, a4, a5⟩ := cut_h o1 hc (fsize n - 4) (by omega)
    obtain ⟨z, z1, z2, z3, z4, z5⟩ := cut_lh o1 hc (fsize n - 4) (fsize n) (by omega) (by omega)
    have z24 : z.xs.length = 4 := by rw [z2]; omega
    have z14 : z.xs = (t.xs.drop (fsize n - 4)).take 4 := by rw [z1]; congr 1; omega
    rw [← z14, ← a1] at hG2
    have FR := hide (fun (W : World) (hW : Touch (fun _ => False) w1 W) => from_txt z z24 W (z3.touch hW))
    have SM := hide (fun (W : World) (hW : Touch (fun _ => False) w1 W) => sum_row W ((hT.touch T1 (fun h => h)).touch hW (fun h => h)) [a] (fun t ht => by obtain rfl := List.mem_singleton.1 ht; exact a3.touch hW) (by simp) 1 rfl (more 0 (nats a.xs)) (by simp [alls]) #[.slice a.ao a.xs.length a.cap] rfl)
    obtain ⟨b, b1, b2, b3, b4, b5⟩ := cut_l a3 a4 (fsize n - 4 - n) (by rw [a2]; omega)
    have hmn : (a.xs.length : Int) - (n : Int) = ((fsize n - 4 - n : Nat) : Int) := by rw [a2]; omega
    have FRS := hide (fun (W : World) (hW : Touch (fun _ => False) w1 W) => fresh_any b W (b3.touch hW) (by have := b2; omega))
    obtain ⟨B, off, hao⟩ := o1.seg.addr hl
    have hcell0 := fun (W : World) (hW : Touch (fun _ => False) w1 W) => (o1.touch hW).seg
    simp only [hao] at hcell0
    have hcell := fun (W : World) (hW : Touch (fun _ => False) w1 W) => (hcell0 W hW).at 0 hl
    clear hcell0
    simp only [Nat.add_zero] at hcell
    rw [← b1] at hG2
    have hBlt : B < w1.heap.size := lt_of_cell (hcell w1 (Touch.refl _ _))
    have hne0 : g0 ≠ B := by
      have := ho.seg.lt _ hao hne
      simp only at this; omega
    rw [hao] at a5 z5 ⊢
    have HG2 := hide hG2
    have hn63 : (fsize n : Int) ≤ 268435466 := by omega
    have hbl : ((fsize n - 4 - n : Nat) : Int) ≤ (a.xs.length : Int) := by rw [a2]; omega
    have hal63 : (a.xs.length : Int) ≤ 268435466 := by rw [a2]; omega
    have hnn : (n : Int) ≤ (a.xs.length : Int) := by rw [a2]; omega
    have hBT : ∀ W, Touch (fun _ => False) w1 W → W.heap[g0]? = some (.cells #[.int .u8 0, .slice none 0 0] 36 (0, 0)) := fun W hW => hW.heap B1 (fun h => h)
    have HBT := hide hBT
    have hl' : (0 : Int) < (t.xs.length : Int) := by omega
    clear hG2 HG hBT a1 a2 a3 a4 z1 z2 z3 z4 z24 z14 b1 b2 b3 b4 o1 ho hf6 hf10 hsh hc hb hne hao hT
    generalize b.xs.length = bl at *
    generalize b.ao = bo at *
    generalize b.cap = bc at *
    generalize b.xs = bxs at *
    generalize sumOf z.xs = sz at *
    generalize z.xs.length = zl at *
    generalize z.ao = zo at *
    generalize z.cap = zc at *
    generalize more 0 (nats a.xs) = s at *
    generalize a.xs.length = al at *
    generalize a.ao = aa at *
    generalize a.cap = ac at *
    generalize t.xs.getD 0 0 = c at *
    generalize t.xs.length = xl at *
    generalize t.cap = cap at *
    generalize fsize n - 4 - n = bm at *
    generalize fsize n - 4 = m at *
    generalize fsize n = fs at *
    have HK := hide hcell
    have HT1 := hide T1
    clear hcell T1 u a z b t
    go_wp2_with fail
    go_quiet (fail)
    go_wp2_with fail
    have td : Touch (fun _ => False) w1 (w1.drewN nq) := Touch.drewN (Touch.refl _ _) nq
    refine (FR.out _ td).mono ?_
    rintro e w2 ⟨rfl, t2⟩
    have T2 := td.trans t2 (fun _ _ h => h)
    clear td t2 FR c0 c1 f0 f1
    go_wp2_with fail
    refine (SM.out _ T2).mono ?_
    rintro e w3 ⟨rfl, _, t3⟩
    have T3 := T2.trans t3 (fun _ _ h => h)
    have B3 := HBT.out _ T3
    obtain ⟨c0, c1, f0, f1⟩ := cell_two B3
    clear SM T2 t3
    by_cases hss : sz = s
    · subst hss
      have hB3 := HK.out _ T3
      have hg0 : g0 < w3.heap.size := lt_of_heap B3
      have hgw := hlo
      have hw1 : IntKind.i64.wrap ((al : Int) - (n : Int)) = (bm : Int) := by rw [IntKind.wrap_i64]; omega
      have hw2 : IntKind.i64.wrap (bm : Int) = (bm : Int) := by rw [IntKind.wrap_i64]; omega
      go_wp2_with fail
      go_region_held3 (fun W => W.cell? ⟨B, off, none⟩ = some (.int .u8 c)) (go_keep) (first | (go_at_call 38; refine (FRS.out _ (T3.drew)).mono ?_; rintro r w4 ⟨fo, fn, fc, rfl, N4⟩; have T4 := (T3.drew).trans N4.touch (fun _ _ h => h); have B4 := HBT.out _ T4; obtain ⟨e0, e1, h0, h1⟩ := cell_two B4; have hB4 := HK.out _ T4))
      go_wp2_with fail
      have B5 := two_put B4 (.int .u8 c) (.slice fo fn fc)
      have T5 : Touch (fun k => k = g0) w4 ((w4.setCell ⟨g0, 0, none⟩ (.int .u8 c)).setCell ⟨g0, 1, none⟩ (.slice fo fn fc)) := ((Touch.refl (fun k => k = g0) w4).setCell (p := ⟨g0, 0, none⟩) (fun _ => rfl) _).setCell (p := ⟨g0, 1, none⟩) (fun _ => rfl) _
      have hsz3 : w1.heap.size ≤ w3.heap.size := T3.size
      have hsz1 : w.heap.size ≤ w1.heap.size := HT1.out.size
      have N5 : New w ((w4.setCell ⟨g0, 0, none⟩ (.int .u8 c)).setCell ⟨g0, 1, none⟩ (.slice fo fn fc)) (.slice fo fn fc) bxs :=
        ⟨N4.row.touch T5 (fun g hg e => by have h := N4.lo g hg; have h' : w3.heap.size ≤ g := h; omega), fun g hg => by have h := N4.lo g hg; have h' : w3.heap.size ≤ g := h; omega, (HT1.out.trans T4 (fun _ _ h => h)).trans T5 (fun k hk e => by omega)⟩
      generalize (w4.setCell ⟨g0, 0, none⟩ (.int .u8 c)).setCell ⟨g0, 1, none⟩ (.slice fo fn fc) = w5 at *
      obtain ⟨d0, d1⟩ := cells2 B5
      refine bodyPost_ret (v := .tuple #[.agg #[.int .u8 c, .slice fo fn fc], .int .i64 (fs : Int), .int .i64 0]) (by simp [results, Tryd.results21, go_sem, d0, d1]) rfl ?_
      have hh := HG2.out
      rw [if_neg (by simp)] at hh
      rw [hh]
      exact ⟨_, _, _, rfl, N5⟩
    · have hss' : ¬ (sz : Int) = (s : Int) := by omega
      have T4 := hide (fun (u v : Value) => ((HT1.out.trans T3 (fun _ _ h => h)).setCell (p := ⟨g0, 0, none⟩) (fun h => by simp at h; omega) u).setCell (p := ⟨g0, 1, none⟩) (fun h => by simp at h; omega) v)
      go_wp2_with fail
      have B4 := two_put B3 (.int .u8 0) (.slice none 0 0)
      have T5 := T4.out (.int .u8 0) (.slice none 0 0)
      generalize (w3.setCell ⟨g0, 0, none⟩ (.int .u8 0)).setCell ⟨g0, 1, none⟩ (.slice none 0 0) = w4 at *
      obtain ⟨d0, d1⟩ := cells2 B4
      refine bodyPost_ret (v := .tuple #[.agg #[.int .u8 0, .slice none 0 0], .int .i64 0, .int .i64 132]) (by simp [results, Tryd.results21, go_sem, d0, d1]) rfl ?_
      have hh := HG2.out
      rw [if_pos hss] at hh
      rw [hh]
      exact ⟨_, _, _, rfl, New.nil T5⟩

theorem lenF_err (r : List Int) : (lenF r).2 ≠ 0 → (lenF r).1 = 0 := by
  unfold lenF
  split
  · intro h; exact absurd rfl h
  · split <;> intro _ <;> rfl

/-- Read. -/
theorem read_any (t : Txt) (w : World) (hT : Tab w) (ho : t.Ok w) (hc : t.xs.length ≤ t.cap) (hb : t.xs.length ≤ 140737488351232) : Calls Tryd.prog 21 #[.slice t.ao t.xs.length t.cap] w (ReadEnd w (readF t.xs)) := by
  by_cases hne : t.xs = []
  · have h := read_empty t.ao t.cap w
    rw [hne]
    exact h
  · by_cases he : (lenF (t.xs.drop 1)).2 = 0
    · obtain ⟨n, hn⟩ : ∃ n, lenF (t.xs.drop 1) = (n, 0) := ⟨(lenF (t.xs.drop 1)).1, by rw [← he]⟩
      exact read_len t n hn (lenF_ok (fun x hx => ho.in8 x (List.mem_of_mem_drop hx)) hn).1 hne w hT ho hc hb
    · have h0 := lenF_err _ he
      have e : readF t.xs = ⟨(lenF (t.xs.drop 1)).2, 0, [], 0⟩ := by unfold readF; rw [if_neg hne, if_pos he]
      rw [e]
      exact read_err t _ (by rw [← h0]) he hne w ho hc hb

end Go.Proofs.YtfeifobljgmkkaaDoor
