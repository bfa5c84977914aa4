/- The document's Moves. -/
import Derived.Test.YtmhobdcnohhaaaaGOwn
import Derived.BigQuiet
namespace Go.Proofs.Ytmhobdcnohhaaaa
open Go.RowKit

theorem mcell_at (l : List Mv) (i : Nat) (h : i < l.length) : (mcells l)[i * 4]? = some (.int .i64 (l[i].a : Int)) ∧ (mcells l)[i * 4 + 1]? = some (.int .i64 (l[i].b : Int)) ∧ (mcells l)[i * 4 + 2]? = some (.int .i64 (l[i].f : Int)) ∧ (mcells l)[i * 4 + 3]? = some (.int .i64 (l[i].t : Int)) := by
  induction l generalizing i with
  | nil => exact absurd h (Nat.not_lt_zero _)
  | cons x l ih =>
    have e : mcells (x :: l) = .int .i64 (x.a : Int) :: .int .i64 (x.b : Int) :: .int .i64 (x.f : Int) :: .int .i64 (x.t : Int) :: mcells l := rfl
    cases i with
    | zero => rw [e]; exact ⟨rfl, rfl, rfl, rfl⟩
    | succ i =>
      obtain ⟨h0, h1, h2, h3⟩ := ih i (by simpa using h)
      rw [e, show (i + 1) * 4 = i * 4 + 1 + 1 + 1 + 1 by omega]
      simp only [List.getElem?_cons_succ, List.getElem_cons_succ]
      exact ⟨h0, h1, h2, h3⟩

/-- The last move, one group longer. -/
theorem mcells_longer (l : List Mv) (m : Mv) (y : Nat) : (mcells (l ++ [m])).set (l.length * 4 + 1) (.int .i64 (y : Int)) = mcells (l ++ [⟨m.a, y, m.f, m.t⟩]) := by
  rw [mcells_append, mcells_append]
  have hl := mcells_len l
  rw [List.set_append_right _ _ (by omega)]
  congr 1
  rw [hl, show l.length * 4 + 1 - l.length * 4 = 1 by omega]
  rfl

/-- A cell of an owned row, set. -/
theorem own_set {w : World} {base n sz b cap j : Nat} {e : TypeId} {ys : List Value} (h : w.ownsRow base e sz (.slice (some ⟨b, 0, none⟩) n cap) n ys) (u : Value) : (w.setCell ⟨b, j, none⟩ u).ownsRow base e sz (.slice (some ⟨b, 0, none⟩) n cap) n (ys.set j u) := by
  rcases h with ⟨h1, ⟨h2, _⟩ | ⟨g, c, cur, h2, h3, h4, h5, h6, h7, h8⟩⟩
  · cases h2
  · injection h2 with a1 _ a3
    injection a1 with a1; injection a1 with a1 _ _
    subst a1 a3
    refine ⟨by simpa using h1, .inr ⟨b, cap, cur.setIfInBounds j u, rfl, h3, heap_setCell_row h4 u, h5, h6, by simpa using h7, ?_⟩⟩
    rw [Array.toList_setIfInBounds, ← h8, List.take_set]

section
variable {P : Program}
theorem step_append_own {w : World} {ops : Array Oper} {o : Oper} {a : Act} {K : Act → World → Prop} {Q : Exit → Act → World → Prop} {E : Prop} (hgd : o.guard = none) (s x : Operand) (t : TypeId)
    (ho : o.op = .call { callee := .builtin .append, args := #[s, x], argTypes := #[t, t] })
    (base : Nat) (e : TypeId) (i : TypeInfo) (z : Value) (size bytes : Nat) (h1 : P.underlying t = some (.slice e)) (h2 : P.info? e = some i) (h3 : i.zero = some z) (h4 : i.size = size) (h5 : i.bytes = bytes) (h6 : z.cells.size = size) (h7 : 0 < size)
    (v : Value) (k : Nat) (xs : List Value) (hs : a.eval s = v) (hown : w.ownsRow base e size v k xs) (ad : Addr) (m c : Nat) (news : List Value) (hx : a.eval x = .slice (some ad) m c) (hn : news.length = m * size)
    (hc : ∀ j u, news[j]? = some u → w.cell? (ad.add j) = some u) (h1c : ∀ u ∈ news, u.oneCell' = true) (b1 : k + m ≤ maxLen) (b2 : (k + m) * bytes ≤ 140737488355328) (b3 : base ≤ w.heap.size)
    (h : ∀ ao cap w', w'.ownsRow base e size (.slice ao (k + m) cap) (k + m) (xs ++ news) → Touch (fun g => v.ownBlock = some g) w w' → K (a.put o.dst (.slice ao (k + m) cap)) w') :
    if Region.wanted o (yielded ops a.tmps) = true then Oper.wp P o a w K Q else E := by
  have hw : Region.wanted o (yielded ops a.tmps) = true := by simp [Region.wanted, hgd]
  rw [if_pos hw]
  obtain ⟨v', w', hrun, r1, r2, _⟩ := run_append_own (P := P) w base t o.type e i z size bytes h1 h2 h3 h4 h5 h6 h7 v k xs hown ad m c news hn hc h1c b1 b2 b3
  obtain ⟨ao, cap, rfl⟩ := own_shape r1
  unfold Oper.wp execOp
  simp only [ho, resolve, invoke, builtin, Sem.run_bind, Sem.run_pure, Result.andThen_ok, List.map_toArray, List.map_cons, List.map_nil, hs, hx, hrun]
  exact h ao cap w' r1 (Touch.of_grownBy r2)
end

set_option maxRecDepth 100000 in
set_option maxHeartbeats 4000000 in
theorem rmoves_any (p q g : Nat) (hp : May p g) (hq : May q g) (w : World) :
    Calls Try.prog 23 #[.int .i64 p, .int .i64 q, .int .i64 g] w fun e w' => ∃ ao n c, e = .returned (.tuple #[.slice ao n c, .int .i64 0]) ∧ w'.ownsRow w.heap.size 54 4 (.slice ao n c) (scan (wk p g) (wk q g) g).length (mcells (scan (wk p g) (wk q g) g)) ∧ Touch (fun _ => False) w w' := by
  obtain ⟨i0, hi, hz0, hz1, hz2⟩ := info_parts2 infoMv
  have M1 := hide (rmays_any p g)
  have M2 := hide (rmays_any q g)
  have hm1 := hp.may
  have hm2 := hq.may
  have O1 := hide (owners_any p g hp)
  have O2 := hide (owners_any q g hq)
  have HG2 := hide hp.g2
  have HG1 := hide hp.g1
  go_enter Try.func23, Try.ntmps23
  go_wp2_with fail
  refine (M1.out _).mono ?_
  rintro e w' ⟨rfl, rfl⟩
  go_wp2_with fail
  refine (M2.out _).mono ?_
  rintro e w' ⟨rfl, rfl⟩
  go_wp2_with fail
  refine (O1.out _).mono ?_
  rintro e w1 ⟨ao1, c1, rfl, R1, L1, T1⟩
  go_wp2_with fail
  refine (O2.out _).mono ?_
  rintro e w2 ⟨ao2, c2, rfl, R2, L2, T2⟩
  obtain ⟨b1, o1, rfl⟩ := (Seg.of_row R1).addr (by rw [whose_len]; exact HG1.out)
  obtain ⟨b2, o2, rfl⟩ := (Seg.of_row R2).addr (by rw [whose_len]; exact HG1.out)
  have SG1 := hide ((Seg.of_row R1).touch T2 (fun _ _ h => h))
  have SG2 := hide (Seg.of_row R2)
  have HT2 := hide (T1.trans T2 (fun _ _ h => h))
  have C1 : Hid (∀ (W : World) (k : Nat), Touch (fun _ => False) w2 W → k < g → W.cell? ⟨b1, o1 + k, none⟩ = some (.int .i64 (wk p g k : Int))) := hide (fun W k ht hk => by
    have := (SG1.out.touch ht (fun _ _ h => h)).at k (by rw [whose_len]; exact hk)
    rw [this, List.getD_eq_getElem?_getD, List.getElem?_eq_getElem (by rw [whose_len]; exact hk), whose_at p g g k hk]; rfl)
  have C2 : Hid (∀ (W : World) (k : Nat), Touch (fun _ => False) w2 W → k < g → W.cell? ⟨b2, o2 + k, none⟩ = some (.int .i64 (wk q g k : Int))) := hide (fun W k ht hk => by
    have := (SG2.out.touch ht (fun _ _ h => h)).at k (by rw [whose_len]; exact hk)
    rw [this, List.getD_eq_getElem?_getD, List.getElem?_eq_getElem (by rw [whose_len]; exact hk), whose_at q g g k hk]; rfl)
  clear R1 R2 L1 L2 T1 T2 SG1 SG2 O1 O2 M1 M2 hm1 hm2
  go_wp2_with fail
  go_loopw [10, 11] (fun v i wr => ∃ (k : Nat) (ao : Option Addr) (c : Nat), i = .int .i64 (k : Int) ∧ k ≤ g ∧ v = .slice ao (scan (wk p g) (wk q g) k).length c ∧ wr.ownsRow w2.heap.size 54 4 v (scan (wk p g) (wk q g) k).length (mcells (scan (wk p g) (wk q g) k)) ∧ Touch (fun _ => False) w2 wr) (fun _ i _ => g - (intOf i).toNat)
  case atStart => exact ⟨0, none, 0, rfl, Nat.zero_le _, rfl, World.ownsRow_nil _ _ _ _, Touch.refl _ _⟩
  case round =>
    obtain ⟨k, ao, c, rfl, hk, rfl, own, ht⟩ := hrel
    by_cases hlt : k < g
    · have hlt' : (k : Int) < (g : Int) := by omega
      have d1 := C1.out wr k ht hlt
      have d2 := C2.out wr k ht hlt
      have HO := hide own
      have HT := hide ht
      have SW := hide (succ_wrap (k := k) (by have := HG2.out; omega))
      have HSL := hide (scan_len (wk p g) (wk q g) k)
      have HSC : Hid (scan (wk p g) (wk q g) (k + 1) = stepM (scan (wk p g) (wk q g) k) k (wk p g k) (wk q g k)) := hide rfl
      clear own ht
      generalize scan (wk p g) (wk q g) k = l at *
      generalize hx : wk p g k = x at *
      generalize hy : wk q g k = y at *
      have HX := hide hx
      have HY := hide hy
      clear hx hy
      by_cases hxy : x = y
      · have hE : ((x : Int) == (y : Int)) = true := by rw [beq_iff_eq]; omega
        have HXY := hide hxy
        clear hxy
        go_wp2_with fail
        go_quiet (fail)
        go_wp2_with fail
        go_roundw
        case rel => exact ⟨k + 1, ao, c, by rw [SW.out], hlt, by rw [HSC.out]; unfold stepM; rw [if_pos HXY.out], by rw [HSC.out]; unfold stepM; rw [if_pos HXY.out]; exact own_touch HO.out ((Touch.refl (fun _ => False) wr).drewN _) (fun _ _ h => h), HT.out.drewN _⟩
        case measure => rw [SW.out]; simp [intOf]; omega
      · have hE : ((x : Int) == (y : Int)) = false := by rw [beq_eq_false_iff_ne]; omega
        have HXY := hide hxy
        clear hxy
        go_wp2_with fail
        go_quiet (fail)
        go_wp2_with fail
        have HTc := hide (HT.out.drewN nq)
        have HOc := hide (own_touch HO.out ((Touch.refl (fun _ => False) wr).drewN nq) (fun _ _ h => h))
        have e1 : (wr.drewN nq).cell? ⟨b1, o1 + k, none⟩ = some (.int .i64 (x : Int)) := d1
        have e2 : (wr.drewN nq).cell? ⟨b2, o2 + k, none⟩ = some (.int .i64 (y : Int)) := d2
        clear HO HT d1 d2
        generalize wr.drewN nq = wc at *
        rcases List.eq_nil_or_concat l with hl | ⟨l0, m, hl⟩
        · subst hl
          simp only [List.length_nil] at HOc ⊢
          go_quiet (fail)
          go_wp2_with fail
          have TD := hide (HTc.out.drewN nq)
          have OD := hide (own_touch HOc.out ((Touch.refl (fun _ => False) wc).drewN nq) (fun _ _ h => h))
          have e1' : (wc.drewN nq).cell? ⟨b1, o1 + k, none⟩ = some (.int .i64 (x : Int)) := e1
          have e2' : (wc.drewN nq).cell? ⟨b2, o2 + k, none⟩ = some (.int .i64 (y : Int)) := e2
          have hwk : IntKind.i64.wrap ((k : Int) + 1) = (k : Int) + 1 := by rw [IntKind.wrap_i64]; have := HG2.out; omega
          have HCE : Hid (Mv.cells ⟨k, k + 1, x, y⟩ = [.int .i64 (k : Int), .int .i64 ((k : Int) + 1), .int .i64 (x : Int), .int .i64 (y : Int)]) := hide (by simp only [Mv.cells, Int.natCast_add, Int.cast_ofNat_Int])
          have HFIN : Hid (scan (wk p g) (wk q g) (k + 1) = ([] : List Mv) ++ [⟨k, k + 1, x, y⟩]) := hide (by rw [HSC.out]; unfold stepM; rw [if_neg HXY.out]; rfl)
          clear HTc HOc e1 e2
          generalize wc.drewN nq = wd at *
          have HBS := hide (fun (W : World) (h : Touch (fun _ => False) wd W) => Nat.le_trans TD.out.size h.size)
          have OE := hide (fun (W : World) (h : Touch (fun _ => False) wd W) => own_touch OD.out h (fun _ _ h => h))
          have HB1 : Hid (0 + 1 ≤ maxLen) := hide (by have := HSL.out; have := HG2.out; unfold maxLen; simp at this ⊢ <;> omega)
          have HB2 : Hid ((0 + 1) * 32 ≤ 140737488355328) := hide (by have h1 := HSL.out; have := HG2.out; simp at h1 ⊢ <;> omega)
          have H1C : Hid (∀ u ∈ [Value.int .i64 (k : Int), .int .i64 ((k : Int) + 1), .int .i64 (x : Int), .int .i64 (y : Int)], u.oneCell' = true) := hide (by rw [← HCE.out]; exact mv_one _)
          go_region_law (first | (refine step_append_own rfl (.tmp 92) (.tmp 105) 47 rfl w2.heap.size 54 i0 (.agg #[.int .i64 0, .int .i64 0, .int .i64 0, .int .i64 0]) 4 32 Try.underlying47 hi hz0 hz1 hz2 rfl (by decide) _ (0) (mcells ([] : List Mv)) rfl (OE.out _ ((Touch.refl _ _).alloc _).drew) ⟨wd.heap.size, 0, none⟩ 1 1 [.int .i64 (k : Int), .int .i64 ((k : Int) + 1), .int .i64 (x : Int), .int .i64 (y : Int)] rfl rfl (new_cells wd [.int .i64 (k : Int), .int .i64 ((k : Int) + 1), .int .i64 (x : Int), .int .i64 (y : Int)] _) H1C.out HB1.out HB2.out (HBS.out _ ((Touch.refl _ _).alloc _).drew) ?_; intro ao4 c4 w4 own4 t4))
          all_goals
            have HO4 : Hid (w4.ownsRow w2.heap.size 54 4 (.slice ao4 (0 + 1) c4) (scan (wk p g) (wk q g) (k + 1)).length (mcells (scan (wk p g) (wk q g) (k + 1)))) := hide (by
              have h4 := own4
              rw [HFIN.out, mcells_append, List.length_append, show mcells [⟨k, k + 1, x, y⟩] = Mv.cells ⟨k, k + 1, x, y⟩ from rfl, HCE.out]
              exact h4)
            have HT4 : Hid (Touch (fun _ => False) w2 w4) := hide ((TD.out.trans (((Touch.refl (fun _ => False) wd).alloc _).drew) (fun _ _ h => h)).trans t4 (fun b' hb hs => by
              have h5 := (own_block (v := .slice ao (0) c) OD.out hs).1
              omega))
            clear own4 t4 OD OE TD HBS
            go_wp2_with fail
            go_roundw
            case rel => exact ⟨k + 1, ao4, c4, by simp, hlt, by rw [HFIN.out]; simp, HO4.out, HT4.out⟩
            case measure => simp [intOf]; omega
        · rw [List.concat_eq_append] at hl
          subst hl
          obtain ⟨n0, hn0⟩ : ∃ n0, n0 = l0.length := ⟨_, rfl⟩
          have hln : (l0 ++ [m]).length = n0 + 1 := by rw [hn0]; simp
          have HLN := hide hln
          have HN0 := hide hn0
          rw [hln] at HOc HSL ⊢
          obtain ⟨b, rfl⟩ : ∃ b, ao = some ⟨b, 0, none⟩ := by
            rcases HOc.out.2 with ⟨h1, h2⟩ | ⟨b, cap, cur, h1, _⟩
            · injection h1 with _ h1 _; omega
            · injection h1 with h1 _ _; exact ⟨b, h1⟩
          have hcs := HOc.out.cells (g := b) rfl
          obtain ⟨m0, m1, m2, m3⟩ := mcell_at (l0 ++ [m]) n0 (by omega)
          have hm : (l0 ++ [m])[n0]'(by omega) = m := by subst hn0; simp
          rw [hm] at m0 m1 m2 m3
          have f1 : wc.cell? ⟨b, n0 * 4 + 1, none⟩ = some (.int .i64 (m.b : Int)) := by have := hcs _ _ m1; rwa [Addr.add_lit, Nat.zero_add] at this
          have f2 : wc.cell? ⟨b, n0 * 4 + 2, none⟩ = some (.int .i64 (m.f : Int)) := by have := hcs _ _ m2; rwa [Addr.add_lit, Nat.zero_add] at this
          have f3 : wc.cell? ⟨b, n0 * 4 + 3, none⟩ = some (.int .i64 (m.t : Int)) := by have := hcs _ _ m3; rwa [Addr.add_lit, Nat.zero_add] at this
          have ew : wrap64 (((n0 + 1 : Nat) : Int) - 1) = (n0 : Int) := by have := HSL.out; have := HG2.out; unfold wrap64; omega
          have ew2 : wrap64 (n0 : Int) = (n0 : Int) := by have := HSL.out; have := HG2.out; unfold wrap64; omega
          have hb0 : (n0 : Int) < ((n0 + 1 : Nat) : Int) := by omega
          have hb1 : (0 : Int) < ((n0 + 1 : Nat) : Int) := by omega
          have HLST : Hid ((l0 ++ [m]).getLast? = some m) := hide (by simp)
          clear hcs m0 m1 m2 m3 hm hln hn0
          by_cases h1 : m.b = k
          · have hE1 : ((m.b : Int) == (k : Int)) = true := by rw [beq_iff_eq]; omega
            by_cases h2 : m.f = x
            · have hE2 : ((m.f : Int) == (x : Int)) = true := by rw [beq_iff_eq]; omega
              by_cases h3 : m.t = y
              · have hE3 : ((m.t : Int) == (y : Int)) = true := by rw [beq_iff_eq]; omega
                have HH : Hid (m.b = k ∧ m.f = x ∧ m.t = y) := hide ⟨h1, h2, h3⟩
                clear h1 h2 h3
                obtain ⟨_, cur, hcur⟩ := own_block HOc.out rfl
                have fz : wc.frozen? ⟨b, n0 * 4 + 1, none⟩ = false := by simp [World.frozen?, hcur]
                have HFIN : Hid (scan (wk p g) (wk q g) (k + 1) = l0 ++ [⟨m.a, k + 1, m.f, m.t⟩]) := hide (by
                  rw [HSC.out]; unfold stepM; rw [if_neg HXY.out, HLST.out]; simp only; rw [if_pos HH.out, HH.out.2.1, HH.out.2.2]; simp)
                have HWB : Hid (wrap64 ((m.b : Int) + 1) = ((k + 1 : Nat) : Int)) := hide (by rw [HH.out.1]; exact SW.out)
                clear hcur
                go_quiet (fail)
                have OD := hide (own_touch HOc.out ((Touch.refl (fun _ => False) wc).drewN nq) (fun _ _ h => h))
                have TD := hide (HTc.out.drewN nq)
                have f1' : (wc.drewN nq).cell? ⟨b, n0 * 4 + 1, none⟩ = some (.int .i64 (m.b : Int)) := f1
                have fz' : (wc.drewN nq).frozen? ⟨b, n0 * 4 + 1, none⟩ = false := fz
                clear HOc HTc f1 f2 f3 fz e1 e2
                generalize wc.drewN nq = wd at *
                go_wp2_with fail
                go_roundw
                case rel =>
                  have hlen : (scan (wk p g) (wk q g) (k + 1)).length = n0 + 1 := by rw [HFIN.out, HN0.out]; simp
                  refine ⟨k + 1, _, c, by rw [SW.out], hlt, by rw [hlen], ?_, ?_⟩
                  · rw [hlen, HFIN.out, ← mcells_longer l0 m (k + 1), ← HN0.out, HWB.out]
                    exact own_set OD.out _
                  · exact TD.out.trans ((Touch.refl (fun j => j = b) wd).setCell (p := ⟨b, n0 * 4 + 1, none⟩) (fun _ => rfl) _) (fun j hj e => by
                      have := (own_block OD.out (g := b) rfl).1
                      omega)
                case measure => rw [SW.out]; simp [intOf]; omega
              · have hE3 : ((m.t : Int) == (y : Int)) = false := by rw [beq_eq_false_iff_ne]; omega
                have HH : Hid (¬ (m.b = k ∧ m.f = x ∧ m.t = y)) := hide (fun h => h3 h.2.2)
                clear h1 h2 h3
                go_quiet (fail)
                go_wp2_with fail
                have TD := hide (HTc.out.drewN nq)
                have OD := hide (own_touch HOc.out ((Touch.refl (fun _ => False) wc).drewN nq) (fun _ _ h => h))
                have e1' : (wc.drewN nq).cell? ⟨b1, o1 + k, none⟩ = some (.int .i64 (x : Int)) := e1
                have e2' : (wc.drewN nq).cell? ⟨b2, o2 + k, none⟩ = some (.int .i64 (y : Int)) := e2
                have hwk : IntKind.i64.wrap ((k : Int) + 1) = (k : Int) + 1 := by rw [IntKind.wrap_i64]; have := HG2.out; omega
                have HCE : Hid (Mv.cells ⟨k, k + 1, x, y⟩ = [.int .i64 (k : Int), .int .i64 ((k : Int) + 1), .int .i64 (x : Int), .int .i64 (y : Int)]) := hide (by simp only [Mv.cells, Int.natCast_add, Int.cast_ofNat_Int])
                have HFIN : Hid (scan (wk p g) (wk q g) (k + 1) = (l0 ++ [m]) ++ [⟨k, k + 1, x, y⟩]) := hide (by rw [HSC.out]; unfold stepM; rw [if_neg HXY.out, HLST.out]; simp only; rw [if_neg (fun h => HH.out h)])
                clear HTc HOc e1 e2 f1 f2 f3
                generalize wc.drewN nq = wd at *
                have HBS := hide (fun (W : World) (h : Touch (fun _ => False) wd W) => Nat.le_trans TD.out.size h.size)
                have OE := hide (fun (W : World) (h : Touch (fun _ => False) wd W) => own_touch OD.out h (fun _ _ h => h))
                have HB1 : Hid (n0 + 1 + 1 ≤ maxLen) := hide (by have := HSL.out; have := HG2.out; unfold maxLen; simp at this ⊢ <;> omega)
                have HB2 : Hid ((n0 + 1 + 1) * 32 ≤ 140737488355328) := hide (by have h1 := HSL.out; have := HG2.out; simp at h1 ⊢ <;> omega)
                have H1C : Hid (∀ u ∈ [Value.int .i64 (k : Int), .int .i64 ((k : Int) + 1), .int .i64 (x : Int), .int .i64 (y : Int)], u.oneCell' = true) := hide (by rw [← HCE.out]; exact mv_one _)
                go_region_law (first | (refine step_append_own rfl (.tmp 92) (.tmp 105) 47 rfl w2.heap.size 54 i0 (.agg #[.int .i64 0, .int .i64 0, .int .i64 0, .int .i64 0]) 4 32 Try.underlying47 hi hz0 hz1 hz2 rfl (by decide) _ (n0 + 1) (mcells (l0 ++ [m])) rfl (OE.out _ ((Touch.refl _ _).alloc _).drew) ⟨wd.heap.size, 0, none⟩ 1 1 [.int .i64 (k : Int), .int .i64 ((k : Int) + 1), .int .i64 (x : Int), .int .i64 (y : Int)] rfl rfl (new_cells wd [.int .i64 (k : Int), .int .i64 ((k : Int) + 1), .int .i64 (x : Int), .int .i64 (y : Int)] _) H1C.out HB1.out HB2.out (HBS.out _ ((Touch.refl _ _).alloc _).drew) ?_; intro ao4 c4 w4 own4 t4))
                all_goals
                  have HO4 : Hid (w4.ownsRow w2.heap.size 54 4 (.slice ao4 (n0 + 1 + 1) c4) (scan (wk p g) (wk q g) (k + 1)).length (mcells (scan (wk p g) (wk q g) (k + 1)))) := hide (by
                    have h4 := own4
                    rw [HFIN.out, mcells_append, List.length_append, show mcells [⟨k, k + 1, x, y⟩] = Mv.cells ⟨k, k + 1, x, y⟩ from rfl, HCE.out, HLN.out]
                    exact h4)
                  have HT4 : Hid (Touch (fun _ => False) w2 w4) := hide ((TD.out.trans (((Touch.refl (fun _ => False) wd).alloc _).drew) (fun _ _ h => h)).trans t4 (fun b' hb hs => by
                    have h5 := (own_block (v := .slice (some ⟨b, 0, none⟩) (n0 + 1) c) OD.out hs).1
                    omega))
                  clear own4 t4 OD OE TD HBS
                  go_wp2_with fail
                  go_roundw
                  case rel => exact ⟨k + 1, ao4, c4, by simp, hlt, by rw [HFIN.out, List.length_append, HLN.out]; simp, HO4.out, HT4.out⟩
                  case measure => simp [intOf]; omega
            · have hE2 : ((m.f : Int) == (x : Int)) = false := by rw [beq_eq_false_iff_ne]; omega
              have HH : Hid (¬ (m.b = k ∧ m.f = x ∧ m.t = y)) := hide (fun h => h2 h.2.1)
              clear h1 h2
              go_quiet (fail)
              go_wp2_with fail
              have TD := hide (HTc.out.drewN nq)
              have OD := hide (own_touch HOc.out ((Touch.refl (fun _ => False) wc).drewN nq) (fun _ _ h => h))
              have e1' : (wc.drewN nq).cell? ⟨b1, o1 + k, none⟩ = some (.int .i64 (x : Int)) := e1
              have e2' : (wc.drewN nq).cell? ⟨b2, o2 + k, none⟩ = some (.int .i64 (y : Int)) := e2
              have hwk : IntKind.i64.wrap ((k : Int) + 1) = (k : Int) + 1 := by rw [IntKind.wrap_i64]; have := HG2.out; omega
              have HCE : Hid (Mv.cells ⟨k, k + 1, x, y⟩ = [.int .i64 (k : Int), .int .i64 ((k : Int) + 1), .int .i64 (x : Int), .int .i64 (y : Int)]) := hide (by simp only [Mv.cells, Int.natCast_add, Int.cast_ofNat_Int])
              have HFIN : Hid (scan (wk p g) (wk q g) (k + 1) = (l0 ++ [m]) ++ [⟨k, k + 1, x, y⟩]) := hide (by rw [HSC.out]; unfold stepM; rw [if_neg HXY.out, HLST.out]; simp only; rw [if_neg (fun h => HH.out h)])
              clear HTc HOc e1 e2 f1 f2 f3
              generalize wc.drewN nq = wd at *
              have HBS := hide (fun (W : World) (h : Touch (fun _ => False) wd W) => Nat.le_trans TD.out.size h.size)
              have OE := hide (fun (W : World) (h : Touch (fun _ => False) wd W) => own_touch OD.out h (fun _ _ h => h))
              have HB1 : Hid (n0 + 1 + 1 ≤ maxLen) := hide (by have := HSL.out; have := HG2.out; unfold maxLen; simp at this ⊢ <;> omega)
              have HB2 : Hid ((n0 + 1 + 1) * 32 ≤ 140737488355328) := hide (by have h1 := HSL.out; have := HG2.out; simp at h1 ⊢ <;> omega)
              have H1C : Hid (∀ u ∈ [Value.int .i64 (k : Int), .int .i64 ((k : Int) + 1), .int .i64 (x : Int), .int .i64 (y : Int)], u.oneCell' = true) := hide (by rw [← HCE.out]; exact mv_one _)
              go_region_law (first | (refine step_append_own rfl (.tmp 92) (.tmp 105) 47 rfl w2.heap.size 54 i0 (.agg #[.int .i64 0, .int .i64 0, .int .i64 0, .int .i64 0]) 4 32 Try.underlying47 hi hz0 hz1 hz2 rfl (by decide) _ (n0 + 1) (mcells (l0 ++ [m])) rfl (OE.out _ ((Touch.refl _ _).alloc _).drew) ⟨wd.heap.size, 0, none⟩ 1 1 [.int .i64 (k : Int), .int .i64 ((k : Int) + 1), .int .i64 (x : Int), .int .i64 (y : Int)] rfl rfl (new_cells wd [.int .i64 (k : Int), .int .i64 ((k : Int) + 1), .int .i64 (x : Int), .int .i64 (y : Int)] _) H1C.out HB1.out HB2.out (HBS.out _ ((Touch.refl _ _).alloc _).drew) ?_; intro ao4 c4 w4 own4 t4))
              all_goals
                have HO4 : Hid (w4.ownsRow w2.heap.size 54 4 (.slice ao4 (n0 + 1 + 1) c4) (scan (wk p g) (wk q g) (k + 1)).length (mcells (scan (wk p g) (wk q g) (k + 1)))) := hide (by
                  have h4 := own4
                  rw [HFIN.out, mcells_append, List.length_append, show mcells [⟨k, k + 1, x, y⟩] = Mv.cells ⟨k, k + 1, x, y⟩ from rfl, HCE.out, HLN.out]
                  exact h4)
                have HT4 : Hid (Touch (fun _ => False) w2 w4) := hide ((TD.out.trans (((Touch.refl (fun _ => False) wd).alloc _).drew) (fun _ _ h => h)).trans t4 (fun b' hb hs => by
                  have h5 := (own_block (v := .slice (some ⟨b, 0, none⟩) (n0 + 1) c) OD.out hs).1
                  omega))
                clear own4 t4 OD OE TD HBS
                go_wp2_with fail
                go_roundw
                case rel => exact ⟨k + 1, ao4, c4, by simp, hlt, by rw [HFIN.out, List.length_append, HLN.out]; simp, HO4.out, HT4.out⟩
                case measure => simp [intOf]; omega
          · have hE1 : ((m.b : Int) == (k : Int)) = false := by rw [beq_eq_false_iff_ne]; omega
            have HH : Hid (¬ (m.b = k ∧ m.f = x ∧ m.t = y)) := hide (fun h => h1 h.1)
            clear h1
            go_quiet (fail)
            go_wp2_with fail
            have TD := hide (HTc.out.drewN nq)
            have OD := hide (own_touch HOc.out ((Touch.refl (fun _ => False) wc).drewN nq) (fun _ _ h => h))
            have e1' : (wc.drewN nq).cell? ⟨b1, o1 + k, none⟩ = some (.int .i64 (x : Int)) := e1
            have e2' : (wc.drewN nq).cell? ⟨b2, o2 + k, none⟩ = some (.int .i64 (y : Int)) := e2
            have hwk : IntKind.i64.wrap ((k : Int) + 1) = (k : Int) + 1 := by rw [IntKind.wrap_i64]; have := HG2.out; omega
            have HCE : Hid (Mv.cells ⟨k, k + 1, x, y⟩ = [.int .i64 (k : Int), .int .i64 ((k : Int) + 1), .int .i64 (x : Int), .int .i64 (y : Int)]) := hide (by simp only [Mv.cells, Int.natCast_add, Int.cast_ofNat_Int])
            have HFIN : Hid (scan (wk p g) (wk q g) (k + 1) = (l0 ++ [m]) ++ [⟨k, k + 1, x, y⟩]) := hide (by rw [HSC.out]; unfold stepM; rw [if_neg HXY.out, HLST.out]; simp only; rw [if_neg (fun h => HH.out h)])
            clear HTc HOc e1 e2 f1 f2 f3
            generalize wc.drewN nq = wd at *
            have HBS := hide (fun (W : World) (h : Touch (fun _ => False) wd W) => Nat.le_trans TD.out.size h.size)
            have OE := hide (fun (W : World) (h : Touch (fun _ => False) wd W) => own_touch OD.out h (fun _ _ h => h))
            have HB1 : Hid (n0 + 1 + 1 ≤ maxLen) := hide (by have := HSL.out; have := HG2.out; unfold maxLen; simp at this ⊢ <;> omega)
            have HB2 : Hid ((n0 + 1 + 1) * 32 ≤ 140737488355328) := hide (by have h1 := HSL.out; have := HG2.out; simp at h1 ⊢ <;> omega)
            have H1C : Hid (∀ u ∈ [Value.int .i64 (k : Int), .int .i64 ((k : Int) + 1), .int .i64 (x : Int), .int .i64 (y : Int)], u.oneCell' = true) := hide (by rw [← HCE.out]; exact mv_one _)
            go_region_law (first | (refine step_append_own rfl (.tmp 92) (.tmp 105) 47 rfl w2.heap.size 54 i0 (.agg #[.int .i64 0, .int .i64 0, .int .i64 0, .int .i64 0]) 4 32 Try.underlying47 hi hz0 hz1 hz2 rfl (by decide) _ (n0 + 1) (mcells (l0 ++ [m])) rfl (OE.out _ ((Touch.refl _ _).alloc _).drew) ⟨wd.heap.size, 0, none⟩ 1 1 [.int .i64 (k : Int), .int .i64 ((k : Int) + 1), .int .i64 (x : Int), .int .i64 (y : Int)] rfl rfl (new_cells wd [.int .i64 (k : Int), .int .i64 ((k : Int) + 1), .int .i64 (x : Int), .int .i64 (y : Int)] _) H1C.out HB1.out HB2.out (HBS.out _ ((Touch.refl _ _).alloc _).drew) ?_; intro ao4 c4 w4 own4 t4))
            all_goals
              have HO4 : Hid (w4.ownsRow w2.heap.size 54 4 (.slice ao4 (n0 + 1 + 1) c4) (scan (wk p g) (wk q g) (k + 1)).length (mcells (scan (wk p g) (wk q g) (k + 1)))) := hide (by
                have h4 := own4
                rw [HFIN.out, mcells_append, List.length_append, show mcells [⟨k, k + 1, x, y⟩] = Mv.cells ⟨k, k + 1, x, y⟩ from rfl, HCE.out, HLN.out]
                exact h4)
              have HT4 : Hid (Touch (fun _ => False) w2 w4) := hide ((TD.out.trans (((Touch.refl (fun _ => False) wd).alloc _).drew) (fun _ _ h => h)).trans t4 (fun b' hb hs => by
                have h5 := (own_block (v := .slice (some ⟨b, 0, none⟩) (n0 + 1) c) OD.out hs).1
                omega))
              clear own4 t4 OD OE TD HBS
              go_wp2_with fail
              go_roundw
              case rel => exact ⟨k + 1, ao4, c4, by simp, hlt, by rw [HFIN.out, List.length_append, HLN.out]; simp, HO4.out, HT4.out⟩
              case measure => simp [intOf]; omega
    · have e : k = g := by omega
      subst e
      have HO := hide own
      have HT := hide ht
      clear own ht
      go_wp2_with fail
      go_ret2
      exact ⟨ao, _, c, rfl, own_base HO.out HT2.out.size, HT2.out.trans HT.out (fun _ _ h => h)⟩

end Go.Proofs.Ytmhobdcnohhaaaa
