/- The walk of TallyTells. -/
import Derived.Test.YtakpeopghhblmaaDoorYLe
import Derived.Test.YtakpeopghhblmaaDoorYFl
import Derived.Test.YtakpeopghhblmaaDoorYTm
import Derived.Test.YtakpeopghhblmaaDoorYW
namespace Go.Proofs.YtakpeopghhblmaaDoor
open Go.RowKit Go.Lib

/-- All of them are small. -/
def smallB (l : List Int) : Bool := l.all fun n => decide (-1099511627776 < n) && decide (n < 1099511627776)

theorem smallB_next (l : List Int) (k : Nat) (hk : k < l.length) : smallB (l.take (k + 1)) = (smallB (l.take k) && (decide (-1099511627776 < l.getD k 0) && decide (l.getD k 0 < 1099511627776))) := by
  unfold smallB
  rw [List.take_succ_eq_append_getElem hk, List.all_append, List.getD_eq_getElem?_getD, List.getElem?_eq_getElem hk]
  simp

theorem tot_next (l : List Int) (k : Nat) (hk : k < l.length) : wrap64 (tot (l.take (k + 1))) = wrap64 (wrap64 (tot (l.take k)) + l.getD k 0) := by
  rw [List.take_succ_eq_append_getElem hk, tot_append, List.getD_eq_getElem?_getD, List.getElem?_eq_getElem hk]
  simp only [tot, Option.getD_some, Int.add_zero]
  unfold wrap64; omega

theorem smallB_all {l : List Int} (h : smallB l = true) : ∀ n ∈ l, -1099511627776 < n ∧ n < 1099511627776 := fun n hn => by
  unfold smallB at h
  have := List.all_eq_true.1 h n hn
  simpa using this

/-- Three lists and a number, as they came in. -/
structure Prt where
  ao : Option Addr
  ac : Nat
  la : List Int
  bo : Option Addr
  bc : Nat
  lb : List Int
  co : Option Addr
  cc : Nat
  lc : List Int
  v : Int

abbrev prc (p : Prt) : Array Value := #[.slice p.ao p.la.length p.ac, .slice p.bo p.lb.length p.bc, .slice p.co p.lc.length p.cc, .int .i64 p.v]

theorem tls_five (w : World) (t u z a b : Tl) (e : TypeId) : Tls (w.alloc (.cells #[.int .i64 t.c, .int .i64 t.s, .int .i64 t.m, .int .i64 t.x, .int .i64 u.c, .int .i64 u.s, .int .i64 u.m, .int .i64 u.x, .int .i64 z.c, .int .i64 z.s, .int .i64 z.m, .int .i64 z.x, .int .i64 a.c, .int .i64 a.s, .int .i64 a.m, .int .i64 a.x, .int .i64 b.c, .int .i64 b.s, .int .i64 b.m, .int .i64 b.x] e)) (some ⟨w.heap.size, 0, none⟩) [t, u, z, a, b] := fun j hj => by
  refine ⟨w.heap.size, 0, rfl, ?_⟩
  have : j = 0 ∨ j = 1 ∨ j = 2 ∨ j = 3 ∨ j = 4 := by simp at hj; omega
  rcases this with rfl | rfl | rfl | rfl | rfl <;> simp

structure Prt.Ok (p : Prt) (w : World) : Prop where
  a : Seg w .i64 p.ao p.la
  ai : ∀ x ∈ p.la, I64 x
  al : p.la.length ≤ 1048576
  b : Seg w .i64 p.bo p.lb
  bi : ∀ x ∈ p.lb, I64 x
  bl : p.lb.length ≤ 1048576
  c : Seg w .i64 p.co p.lc
  ci : ∀ x ∈ p.lc, I64 x
  cl : p.lc.length ≤ 1048576
  v : I64 p.v

theorem Seg.calm {w w' : World} {k : IntKind} {ao : Option Addr} {xs : List Int} (h : Seg w k ao xs) (ht : Calm w w') : Seg w' k ao xs := h.touch ht fun _ _ h => h

theorem Row.calm {w w' : World} {e : TypeId} {k : IntKind} {v : Value} {xs : List Int} (h : Row w e k v xs) (ht : Calm w w') : Row w' e k v xs := h.touch ht fun _ _ h => h

theorem Grew.new {a M w' : World} {v v' : Value} (hM : Calm a M) (hg : Grew M v w' v') (hv : ∀ j, v.ownBlock = some j → a.heap.size ≤ j) : Calm a w' ∧ ∀ j, v'.ownBlock = some j → a.heap.size ≤ j := by
  refine ⟨hM.trans hg.touch (fun k hk h => by have := hv k h; omega), fun j hj => ?_⟩
  rcases hg.fresh with e | ⟨g, e, hg'⟩
  · exact hv j (by rw [← e]; exact hj)
  · rw [hj] at e; injection e with e; subst e; exact Nat.le_trans hM.size hg'

theorem prc_cells {w : World} {b : Nat} {p : Prt} {ty : TypeId} (h : w.heap[b]? = some (.cells (prc p) ty (0, 0))) :
    w.cell? ⟨b, 0, none⟩ = some (.slice p.ao p.la.length p.ac) ∧ w.cell? ⟨b, 1, none⟩ = some (.slice p.bo p.lb.length p.bc) ∧ w.cell? ⟨b, 2, none⟩ = some (.slice p.co p.lc.length p.cc) ∧ w.cell? ⟨b, 3, none⟩ = some (.int .i64 p.v) := by simp [World.cell?, h]

set_option maxRecDepth 100000 in
set_option maxHeartbeats 4000000 in
theorem tells_walk (p : Prt) (w : World) (ok : p.Ok w) : Calls Tryd.prog 8 #[.agg (prc p)] w fun e w' => e = .returned (.bool true) ∧ Calm w w' := by
  have TD := hide (told ok.ai ok.bi ok.ci ok.v ok.al ok.bl ok.cl)
  have CO := fun (w' : World) ao cap xs (h : Seg w' .i64 ao xs) (hl : xs.length ≤ 140737488355328) => hide (of_any ao cap xs w' h hl)
  have C8 := fun w => hide (works_any w)
  have OK := hide ok
  clear ok
  go_enter Tryd.func8, Tryd.ntmps8
  go_wp2_with fail
  have A0 := al_new w (.cells (prc p) 47)
  have T0 : Calm w (w.alloc (.cells (prc p) 47)) := (Touch.refl _ _).alloc _
  generalize w.alloc (.cells (prc p) 47) = w1 at *
  generalize w.heap.size = B at *
  refine wp_region_held (S := Calm w1) (by kernel_rfl) ?_
  have hT0 : Calm w1 { w1 with drawn := w1.drawn + 1 } := (Touch.refl (fun _ => False) w1).drew
  refine wpAnyH_yield 0 20 (.pointer (some ⟨B, 0, none⟩)) rfl rfl (by kernel_rfl) (by kernel_rfl) (by kernel_rfl) (fun _ _ _ h => h) (by kernel_rfl) (fun W hW => by go_simp) (by assumption) rfl rfl ?_
  simp only [Act.put, List.setIfInBounds_toArray, List.set_cons_zero, List.set_cons_succ]
  refine wpAnyH_yield 1 21 (.slice p.ao p.la.length p.ac) rfl rfl (by kernel_rfl) (by kernel_rfl) (by kernel_rfl) (fun _ _ _ h => h) (by kernel_rfl) (fun W hW => by obtain ⟨c0, c1, c2, c3⟩ := prc_cells (hW.at A0); go_simp) (by assumption) rfl rfl ?_
  simp only [Act.put, List.setIfInBounds_toArray, List.set_cons_zero, List.set_cons_succ]
  refine wpAnyH_yield 2 22 (.pointer (some ⟨B, 1, none⟩)) rfl rfl (by kernel_rfl) (by kernel_rfl) (by kernel_rfl) (fun _ _ _ h => h) (by kernel_rfl) (fun W hW => by go_simp) (by assumption) rfl rfl ?_
  simp only [Act.put, List.setIfInBounds_toArray, List.set_cons_zero, List.set_cons_succ]
  refine wpAnyH_yield 3 23 (.slice p.bo p.lb.length p.bc) rfl rfl (by kernel_rfl) (by kernel_rfl) (by kernel_rfl) (fun _ _ _ h => h) (by kernel_rfl) (fun W hW => by obtain ⟨c0, c1, c2, c3⟩ := prc_cells (hW.at A0); go_simp) (by assumption) rfl rfl ?_
  simp only [Act.put, List.setIfInBounds_toArray, List.set_cons_zero, List.set_cons_succ]
  refine wpAnyH_yield 4 24 (.pointer (some ⟨B, 2, none⟩)) rfl rfl (by kernel_rfl) (by kernel_rfl) (by kernel_rfl) (fun _ _ _ h => h) (by kernel_rfl) (fun W hW => by go_simp) (by assumption) rfl rfl ?_
  simp only [Act.put, List.setIfInBounds_toArray, List.set_cons_zero, List.set_cons_succ]
  refine wpAnyH_yield 5 25 (.slice p.co p.lc.length p.cc) rfl rfl (by kernel_rfl) (by kernel_rfl) (by kernel_rfl) (fun _ _ _ h => h) (by kernel_rfl) (fun W hW => by obtain ⟨c0, c1, c2, c3⟩ := prc_cells (hW.at A0); go_simp) (by assumption) rfl rfl ?_
  simp only [Act.put, List.setIfInBounds_toArray, List.set_cons_zero, List.set_cons_succ]
  refine wpAnyH_yield 6 26 (.pointer (some ⟨B, 3, none⟩)) rfl rfl (by kernel_rfl) (by kernel_rfl) (by kernel_rfl) (fun _ _ _ h => h) (by kernel_rfl) (fun W hW => by go_simp) (by assumption) rfl rfl ?_
  simp only [Act.put, List.setIfInBounds_toArray, List.set_cons_zero, List.set_cons_succ]
  refine wpAnyH_yield 7 27 (.int .i64 p.v) rfl rfl (by kernel_rfl) (by kernel_rfl) (by kernel_rfl) (fun _ _ _ h => h) (by kernel_rfl) (fun W hW => by obtain ⟨c0, c1, c2, c3⟩ := prc_cells (hW.at A0); go_simp) (by assumption) rfl rfl ?_
  simp only [Act.put, List.setIfInBounds_toArray, List.set_cons_zero, List.set_cons_succ]
  refine wpAnyH_yield 8 3 (.slice p.ao p.la.length p.ac) rfl rfl (by kernel_rfl) (by kernel_rfl) (by kernel_rfl) (fun _ _ _ h => h) (by kernel_rfl) (fun W hW => by kernel_rfl) (by assumption) rfl rfl ?_
  simp only [Act.put, List.setIfInBounds_toArray, List.set_cons_zero, List.set_cons_succ]
  refine wpAnyH_yield 9 4 (.slice p.bo p.lb.length p.bc) rfl rfl (by kernel_rfl) (by kernel_rfl) (by kernel_rfl) (fun _ _ _ h => h) (by kernel_rfl) (fun W hW => by kernel_rfl) (by assumption) rfl rfl ?_
  simp only [Act.put, List.setIfInBounds_toArray, List.set_cons_zero, List.set_cons_succ]
  refine wpAnyH_yield 10 5 (.slice p.co p.lc.length p.cc) rfl rfl (by kernel_rfl) (by kernel_rfl) (by kernel_rfl) (fun _ _ _ h => h) (by kernel_rfl) (fun W hW => by kernel_rfl) (by assumption) rfl rfl ?_
  simp only [Act.put, List.setIfInBounds_toArray, List.set_cons_zero, List.set_cons_succ]
  refine wpAnyH_yield 11 6 (.int .i64 p.v) rfl rfl (by kernel_rfl) (by kernel_rfl) (by kernel_rfl) (fun _ _ _ h => h) (by kernel_rfl) (fun W hW => by kernel_rfl) (by assumption) rfl rfl ?_
  simp only [Act.put, List.setIfInBounds_toArray, List.set_cons_zero, List.set_cons_succ]
  refine wpAnyH_done (by kernel_rfl) ?_ _
  have T1 := T0.tr hT0
  generalize ({ w1 with drawn := w1.drawn + 1 } : World) = w2 at *
  have HT := hide T1
  clear hT0 T0 T1 A0
  go_wp2_with fail
  refine (CO _ _ _ _ (OK.out.a.calm HT.out) (by have := OK.out.al; omega)).out.mono ?_
  rintro e w3 ⟨rfl, T3⟩
  have T4 := HT.out.tr T3
  clear HT T3
  have HT := hide T4
  clear T4
  go_wp2_with fail
  have X1 := al_new w3 (.cells (tlc (ofT p.la)) 24)
  have T4 := HT.out.alloc (.cells (tlc (ofT p.la)) 24)
  refine (CO _ _ _ _ (OK.out.b.calm T4) (by have := OK.out.bl; omega)).out.mono ?_
  rintro e w4 ⟨rfl, T5⟩
  have X2 := T5.at X1
  have T6 := T4.tr T5
  clear X1 T4 T5 HT
  generalize w3.heap.size = X at *
  have HX := hide X2
  have HT := hide T6
  clear X2 T6
  go_wp2_with fail
  have Y1 := al_new w4 (.cells (tlc (ofT p.lb)) 24)
  have X1 := al_old HX.out (.cells (tlc (ofT p.lb)) 24)
  have T4 := HT.out.alloc (.cells (tlc (ofT p.lb)) 24)
  refine (CO _ _ _ _ (OK.out.c.calm T4) (by have := OK.out.cl; omega)).out.mono ?_
  rintro e w5 ⟨rfl, T5⟩
  have Y2 := T5.at Y1
  have X2 := T5.at X1
  have T6 := T4.tr T5
  clear X1 Y1 T4 T5 HT HX
  generalize w4.heap.size = Y at *
  have HX := hide X2
  have HY := hide Y2
  have HT := hide T6
  clear X2 Y2 T6
  obtain ⟨i0, hi, hz0, hz1, hz2, -⟩ := info_parts infoI64
  have la := OK.out.al
  have lb := OK.out.bl
  have lc := OK.out.cl
  have RE : Row ((w5.alloc (.cells (tlc (ofT p.lc)) 24)).alloc (.cells #[] 2)) 2 .i64 (.slice (some ⟨w5.heap.size + 1, 0, none⟩) 0 0) [] := by
    have := Row.empty (w5.alloc (.cells (tlc (ofT p.lc)) 24))
    rwa [al_size] at this
  have T7 := (HT.out.alloc (.cells (tlc (ofT p.lc)) 24)).alloc (.cells #[] 2)
  have SA := (OK.out.a.calm T7).src Tryd.underlying22 p.ac
  have hbase : w.heap.size ≤ w5.heap.size := HT.out.size
  go_wp2_with (at_builtin; refine wpList_append_row _ rfl (.tmp 34) (.tmp 35) 22 22 rfl 2 i0 (.int .i64 0) .i64 8 Tryd.underlying22 hi hz0 hz1 hz2 rfl _ [] rfl RE _ p.la rfl SA ?b1 ?b2 ?nx)
  case b1 => simp only [List.length_nil]; unfold maxLen; omega
  case b2 => simp only [List.length_nil]; omega
  case nx =>
    intro ao1 n1 c1 w6 hr1 hg1
    have hn1 : n1 = p.la.length := hr1.len
    subst hn1
    have Z0 := al_new w5 (.cells (tlc (ofT p.lc)) 24)
    obtain ⟨N1, F1⟩ := hg1.new (a := w5.alloc (.cells (tlc (ofT p.lc)) 24)) ((Touch.refl _ _).alloc _) (fun j hj => by simp [Value.ownBlock] at hj; simp; omega)
    have X3 := al_old HX.out (.cells (tlc (ofT p.lc)) 24)
    have Y3 := al_old HY.out (.cells (tlc (ofT p.lc)) 24)
    have T8 := HT.out.alloc (.cells (tlc (ofT p.lc)) 24)
    clear RE T7 SA hg1 HX HY HT hbase
    generalize w5.alloc (.cells (tlc (ofT p.lc)) 24) = w5z at *
    generalize w5.heap.size = Z at *
    have S2 := (OK.out.b.calm (T8.tr N1)).src Tryd.underlying22 p.bc
    have HX := hide X3
    have HY := hide Y3
    have HZ := hide Z0
    have HT := hide T8
    have HN := hide N1
    have HF := hide F1
    clear X3 Y3 Z0 T8 N1 F1
    go_wp2_with (at_builtin; refine wpList_append_row _ rfl (.tmp 36) (.tmp 37) 22 22 rfl 2 i0 (.int .i64 0) .i64 8 Tryd.underlying22 hi hz0 hz1 hz2 rfl _ p.la rfl hr1 _ p.lb rfl S2 ?b3 ?b4 ?nx2)
    case b3 => unfold maxLen; omega
    case b4 => omega
    case nx2 =>
      intro ao2 n2 c2 w7 hr2 hg2
      have hn2 := hr2.len
      subst hn2
      obtain ⟨N2, F2⟩ := hg2.new HN.out HF.out
      have S3 := (OK.out.c.calm (HT.out.tr N2)).src Tryd.underlying22 p.cc
      clear hr1 hg2 HN HF S2
      have HN := hide N2
      have HF := hide F2
      have l2 : (p.la ++ p.lb).length ≤ 2097152 := by rw [List.length_append]; omega
      clear N2 F2
      go_wp2_with (at_builtin; refine wpList_append_row _ rfl (.tmp 38) (.tmp 39) 22 22 rfl 2 i0 (.int .i64 0) .i64 8 Tryd.underlying22 hi hz0 hz1 hz2 rfl _ (p.la ++ p.lb) rfl hr2 _ p.lc rfl S3 ?b5 ?b6 ?nx3)
      case b5 => unfold maxLen; omega
      case b6 => omega
      case nx3 =>
        intro ao3 n3 c3 w8 hr3 hg3
        have hF' := HF.out
        rw [List.length_append] at hF'
        obtain ⟨N3, -⟩ := hg3.new HN.out hF'
        rw [← List.append_assoc] at hr3
        have hn3 := hr3.len
        subst hn3
        have SG := hr3
        obtain ⟨t1, t2, t3, t4, t5, t6, tm, tj, t7, t8, t9⟩ := TD.out
        have T9 := HT.out.tr N3
        have X4 := N3.at HX.out
        have Y4 := N3.at HY.out
        have Z4 := N3.at HZ.out
        have I64s : ∀ n ∈ p.la ++ p.lb ++ p.lc, I64 n := fun n hn => by
          rcases List.mem_append.1 hn with h | h
          · rcases List.mem_append.1 h with h | h
            · exact OK.out.ai n h
            · exact OK.out.bi n h
          · exact OK.out.ci n h
        have hll : (p.la ++ p.lb ++ p.lc).length ≤ 3145728 := by simp; omega
        have CT := fun (w' : World) (h : Seg w' .i64 ao3 (p.la ++ p.lb ++ p.lc)) => CO w' ao3 c3 _ h (by omega)
        clear hr2 hr3 hg3 S3 HN HF hF' N3 HX HY HZ HT TD l2 hi hz0 hz1 hz2 la lb lc CO
        generalize p.la ++ p.lb ++ p.lc = al at *
        generalize ofT p.la = x at *
        generalize ofT p.lb = y at *
        generalize ofT p.lc = z at *
        generalize ofT al = t at *
        have K1 := hide t1
        have K2 := hide t2
        have K3 := hide t3
        have K4 := hide t4
        have K5 := hide t5
        have K6 := hide t6
        have K7 := hide t7
        have KM := hide tm
        have KJ := hide tj
        have K8 := hide t8
        have K9 := hide t9
        have HX := hide X4
        have HY := hide Y4
        have HZ := hide Z4
        have HT := hide T9
        have HS := hide SG
        have HI := hide I64s
        have HL := hide hll
        clear t1 t2 t3 t4 t5 t6 tm tj t7 t8 t9 X4 Y4 Z4 T9 SG I64s hll
        generalize hNN : al.length = N at *
        have HNN := hide hNN
        clear hNN
        go_wp2_with fail
        refine (CT _ (Seg.of_row HS.out)).out.mono ?_
        rintro e w9 ⟨rfl, T9⟩
        have X5 := T9.at HX.out
        have Y5 := T9.at HY.out
        have Z5 := T9.at HZ.out
        have T10 := HT.out.tr T9
        have S5 := HS.out.calm T9
        clear HX HY HZ HT HS CT T9
        have HX := hide X5
        have HY := hide Y5
        have HZ := hide Z5
        have HT := hide T10
        have HS := hide S5
        clear X5 Y5 Z5 T10 S5
        go_wp2_with fail
        have W1 := al_new w9 (.cells (tlc t) 24)
        have X5 := al_old HX.out (.cells (tlc t) 24)
        have Y5 := al_old HY.out (.cells (tlc t) 24)
        have Z5 := al_old HZ.out (.cells (tlc t) 24)
        have T10 := HT.out.alloc (.cells (tlc t) 24)
        have S5 := HS.out.alloc (.cells (tlc t) 24)
        clear HX HY HZ HT HS
        generalize w9.alloc (.cells (tlc t) 24) = w10 at *
        generalize w9.heap.size = V at *
        have CJ := fun (w' : World) (q : Nat) (a b : Tl) (h : Tls w' (some ⟨q, 0, none⟩) [a, b]) => hide (join_any (some ⟨q, 0, none⟩) 2 [a, b] w' h (by simp))
        have hX := lt_of_heap X5
        have hY := lt_of_heap Y5
        have hZ := lt_of_heap Z5
        have hV := lt_of_heap W1
        refine wp_region_held (S := Touch (fun k => w10.heap.size ≤ k) w10) (by kernel_rfl) ?_
        have hT0 : Touch (fun k => w10.heap.size ≤ k) w10 { w10 with drawn := w10.drawn + 1 } := (Touch.refl _ w10).drew
        have hC0 : Calm w10 { w10 with drawn := w10.drawn + 1 } := (Touch.refl _ w10).drew
        refine wpAnyH_yield 0 43 (tlv x) rfl rfl (by kernel_rfl) (by kernel_rfl) (by kernel_rfl) (fun _ _ _ h => h) (by kernel_rfl) (fun W hW => by obtain ⟨c0, c1, c2, c3⟩ := tl_cells (hW.heap X5 (by omega)); go_simp) (by assumption) rfl rfl ?_
        simp only [Act.put, List.setIfInBounds_toArray, List.set_cons_zero, List.set_cons_succ]
        refine wpAnyH_yield 1 44 (tlv y) rfl rfl (by kernel_rfl) (by kernel_rfl) (by kernel_rfl) (fun _ _ _ h => h) (by kernel_rfl) (fun W hW => by obtain ⟨c0, c1, c2, c3⟩ := tl_cells (hW.heap Y5 (by omega)); go_simp) (by assumption) rfl rfl ?_
        simp only [Act.put, List.setIfInBounds_toArray, List.set_cons_zero, List.set_cons_succ]
        refine wpAnyH_yield 4 47 (tlv z) rfl rfl (by kernel_rfl) (by kernel_rfl) (by kernel_rfl) (fun _ _ _ h => h) (by kernel_rfl) (fun W hW => by obtain ⟨c0, c1, c2, c3⟩ := tl_cells (hW.heap Z5 (by omega)); go_simp) (by assumption) rfl rfl ?_
        simp only [Act.put, List.setIfInBounds_toArray, List.set_cons_zero, List.set_cons_succ]
        refine wpAnyH_names fun ops Q a0 hops hQ ha => ?_
        obtain ⟨F, hF⟩ : ∃ F : (Nat → Value) → Value → Act, F = fun vs p => ((((a0.put (some 45) (vs 0)).put (some 46) (vs 1)).put (some 48) (vs 2)).put (some 49) (vs 3)).put (some 12) p := ⟨_, rfl⟩
        have f0 : a0 = F (fun _ => undef) undef := by rw [hF, ha]; kernel_rfl
        have g0 : ∀ vs p x, (F vs p).put (some 45) x = F (upd vs 0 x) p := fun vs p x => by rw [hF, ha]; kernel_rfl
        have g1 : ∀ vs p x, (F vs p).put (some 46) x = F (upd vs 1 x) p := fun vs p x => by rw [hF, ha]; kernel_rfl
        have g2 : ∀ vs p x, (F vs p).put (some 48) x = F (upd vs 2 x) p := fun vs p x => by rw [hF, ha]; kernel_rfl
        have g3 : ∀ vs p x, (F vs p).put (some 49) x = F (upd vs 3 x) p := fun vs p x => by rw [hF, ha]; kernel_rfl
        have g4 : ∀ vs x, (F vs undef).put (some 12) x = F vs x := fun vs x => by rw [hF, ha]; kernel_rfl
        rw [f0]
        refine wpAnyH_float (m := 4) (fuel := 1) (fun k => [2, 3, 5, 6].getD k 0) 7 12 (.cells (tlc tl0) 24) F (fun k b => #[true, true, decide (1 ≤ k), decide (2 ≤ k), true, decide (3 ≤ k), decide (4 ≤ k), b, false])
          (fun k vs W => (k = 1 → ∃ q, vs 0 = .slice (some ⟨q, 0, none⟩) 2 2 ∧ Tls W (some ⟨q, 0, none⟩) [x, y]) ∧ (k = 2 → vs 1 = tlv (joinT [x, y])) ∧ (k = 3 → ∃ q, vs 2 = .slice (some ⟨q, 0, none⟩) 2 2 ∧ Tls W (some ⟨q, 0, none⟩) [joinT [x, y], z]) ∧ (k = 4 → vs 3 = tlv (joinT [joinT [x, y], z]))) w10
          (by rw [hops]; rfl) rfl (fun vs p => by rw [hops]; kernel_rfl) (fun vs W => by kernel_rfl) g4 ?hLf ?hLi ?r0 ?r1 ?r2 ?hI (fun W h => h.mono (fun _ _ h => h.elim)) ?step ?tail _ _ ⟨fun h => (nomatch h), fun h => (nomatch h), fun h => (nomatch h), fun h => (nomatch h)⟩ hC0
        case hLf => intro k hk; rcases (by omega : k = 0 ∨ k = 1 ∨ k = 2 ∨ k = 3 ∨ k = 4) with rfl | rfl | rfl | rfl | rfl <;> rfl
        case hLi => intro k b hk; rcases (by omega : k = 0 ∨ k = 1 ∨ k = 2 ∨ k = 3) with rfl | rfl | rfl | rfl <;> rfl
        case r0 => intro k hk; subst hops; rcases (by omega : k = 0 ∨ k = 1 ∨ k = 2 ∨ k = 3) with rfl | rfl | rfl | rfl <;> kernel_rfl
        case r1 => intro k hk; subst hops; rcases (by omega : k = 0 ∨ k = 1 ∨ k = 2 ∨ k = 3) with rfl | rfl | rfl | rfl <;> kernel_rfl
        case r2 => subst hops; kernel_rfl
        case hI =>
          rintro k vs W W' ⟨h1, h2, h3, h4⟩ hW
          exact ⟨fun h => by obtain ⟨q, e, f⟩ := h1 h; exact ⟨q, e, f.calm hW⟩, h2, fun h => by obtain ⟨q, e, f⟩ := h3 h; exact ⟨q, e, f.calm hW⟩, h4⟩
        case step =>
          rintro k vs p' W K hk ⟨h1, h2, h3, h4⟩ hc hK
          subst hops
          rcases (by omega : k = 0 ∨ k = 1 ∨ k = 2 ∨ k = 3) with rfl | rfl | rfl | rfl
          · refine wpOp_value 2 45 (.slice (some ⟨W.heap.size, 0, none⟩) 2 2) (w' := W.alloc (.cells #[.int .i64 x.c, .int .i64 x.s, .int .i64 x.m, .int .i64 x.x, .int .i64 y.c, .int .i64 y.s, .int .i64 y.m, .int .i64 y.x] 24)) rfl rfl (by kernel_rfl) (by rw [hF, ha]; kernel_rfl) ?_
            rw [g0]
            exact hK _ _ ((Touch.refl _ _).alloc _) ⟨fun _ => ⟨_, rfl, tls_two W x y _⟩, fun h => (nomatch h), fun h => (nomatch h), fun h => (nomatch h)⟩
          · obtain ⟨q, e, f⟩ := h1 rfl
            refine wpOp_enter 3 46 16 #[vs 0] rfl rfl (by kernel_rfl) (by rw [hF, ha]; kernel_rfl) ?_
            rw [e]
            refine (CJ W q x y f).out.mono ?_
            rintro r W' ⟨rfl, hW⟩
            exact ⟨_, rfl, by rw [g1]; exact hK _ _ hW ⟨fun h => (nomatch h), fun _ => rfl, fun h => (nomatch h), fun h => (nomatch h)⟩⟩
          · have e := h2 rfl
            refine wpOp_value 5 48 (.slice (some ⟨W.heap.size, 0, none⟩) 2 2) (w' := W.alloc (.cells #[.int .i64 (joinT [x, y]).c, .int .i64 (joinT [x, y]).s, .int .i64 (joinT [x, y]).m, .int .i64 (joinT [x, y]).x, .int .i64 z.c, .int .i64 z.s, .int .i64 z.m, .int .i64 z.x] 24)) rfl rfl (by kernel_rfl) (by rw [hF, ha]; simp only [e]; kernel_rfl) ?_
            rw [g2]
            exact hK _ _ ((Touch.refl _ _).alloc _) ⟨fun h => (nomatch h), fun h => (nomatch h), fun _ => ⟨_, rfl, tls_two W (joinT [x, y]) z _⟩, fun h => (nomatch h)⟩
          · obtain ⟨q, e, f⟩ := h3 rfl
            refine wpOp_enter 6 49 16 #[vs 2] rfl rfl (by kernel_rfl) (by rw [hF, ha]; kernel_rfl) ?_
            rw [e]
            refine (CJ W q (joinT [x, y]) z f).out.mono ?_
            rintro r W' ⟨rfl, hW⟩
            exact ⟨_, rfl, by rw [g3]; exact hK _ _ hW ⟨fun h => (nomatch h), fun h => (nomatch h), fun h => (nomatch h), fun _ => rfl⟩⟩
        case tail =>
          rintro vs q1 W ⟨-, -, -, h4⟩ hc hq1 hh
          have e := h4 rfl
          rw [K1.out] at e
          generalize hv0 : vs 0 = v0
          generalize hv1 : vs 1 = v1
          generalize hv2 : vs 2 = v2
          rw [hF, ha]
          simp only [e, hv0, hv1, hv2]
          subst hops hQ
          clear hF ha f0 g0 g1 g2 g3 g4 h4 e hv0 hv1 hv2
          simp only [Act.put, List.setIfInBounds_toArray, List.set_cons_zero, List.set_cons_succ]
          have X6 := hc.at X5
          have Y6 := hc.at Y5
          have Z6 := hc.at Z5
          have V6 := hc.at W1
          obtain ⟨A6, T6⟩ := tl_set t hh
          obtain ⟨c0, c1, c2, c3⟩ := tl_cells hh
          obtain ⟨z0, z1, z2, z3⟩ := tl_frozen hh
          have SS : Touch (fun k => w10.heap.size ≤ k) w10 _ := Touch.trans (hc.mono (S' := fun k => w10.heap.size ≤ k) (fun _ _ h => h.elim)) T6 (fun k _ e => by omega)
          refine wpAnyH_do 8 ((((W.setCell ⟨q1, 0, none⟩ (.int .i64 t.c)).setCell ⟨q1, 1, none⟩ (.int .i64 t.s)).setCell ⟨q1, 2, none⟩ (.int .i64 t.m)).setCell ⟨q1, 3, none⟩ (.int .i64 t.x)) rfl (by kernel_rfl) (by kernel_rfl) (fun K hK => by unfold Oper.wp; go_simp; exact hK) SS ?_
          have X7 := T6.heap X6 (by omega)
          have Y7 := T6.heap Y6 (by omega)
          have Z7 := T6.heap Z6 (by omega)
          have V7 := T6.heap V6 (by omega)
          have S7 := S5.touch SS (fun g hg h => by have := S5.lt hg; omega)
          have T11 : Calm w _ := T10.trans SS (fun k hk h => by have := T10.size; omega)
          refine wpAnyH_done (by kernel_rfl) ?_ _
          generalize ((((W.setCell ⟨q1, 0, none⟩ (.int .i64 t.c)).setCell ⟨q1, 1, none⟩ (.int .i64 t.s)).setCell ⟨q1, 2, none⟩ (.int .i64 t.m)).setCell ⟨q1, 3, none⟩ (.int .i64 t.x)) = w11 at *
          have hq := lt_of_heap A6
          clear X5 Y5 Z5 W1 S5 T10 X6 Y6 Z6 V6 T6 SS hh hc c0 c1 c2 c3 z0 z1 z2 z3 hX hY hZ hV hT0 hC0
          have HX := hide X7
          have HY := hide Y7
          have HZ := hide Z7
          have HV := hide V7
          have HQ1 := hide A6
          have HS := hide S7
          have HT := hide T11
          clear X7 Y7 Z7 V7 A6 S7 T11 hq1 hq
          go_wp2_with fail
          have hX := lt_of_heap HX.out
          have hY := lt_of_heap HY.out
          have hZ := lt_of_heap HZ.out
          have hV := lt_of_heap HV.out
          have hQ1 := lt_of_heap HQ1.out
          refine wp_region_held (S := Touch (fun k => w11.heap.size ≤ k) w11) (by kernel_rfl) ?_
          have hT0 : Touch (fun k => w11.heap.size ≤ k) w11 { w11 with drawn := w11.drawn + 1 } := (Touch.refl _ w11).drew
          have hC0 : Calm w11 { w11 with drawn := w11.drawn + 1 } := (Touch.refl _ w11).drew
          refine wpAnyH_yield 0 50 (tlv x) rfl rfl (by kernel_rfl) (by kernel_rfl) (by kernel_rfl) (fun _ _ _ h => h) (by kernel_rfl) (fun W hW => by obtain ⟨c0, c1, c2, c3⟩ := tl_cells (hW.heap HX.out (by omega)); go_simp) (by assumption) rfl rfl ?_
          simp only [Act.put, List.setIfInBounds_toArray, List.set_cons_zero, List.set_cons_succ]
          refine wpAnyH_yield 1 51 (tlv y) rfl rfl (by kernel_rfl) (by kernel_rfl) (by kernel_rfl) (fun _ _ _ h => h) (by kernel_rfl) (fun W hW => by obtain ⟨c0, c1, c2, c3⟩ := tl_cells (hW.heap HY.out (by omega)); go_simp) (by assumption) rfl rfl ?_
          simp only [Act.put, List.setIfInBounds_toArray, List.set_cons_zero, List.set_cons_succ]
          refine wpAnyH_yield 2 52 (tlv z) rfl rfl (by kernel_rfl) (by kernel_rfl) (by kernel_rfl) (fun _ _ _ h => h) (by kernel_rfl) (fun W hW => by obtain ⟨c0, c1, c2, c3⟩ := tl_cells (hW.heap HZ.out (by omega)); go_simp) (by assumption) rfl rfl ?_
          simp only [Act.put, List.setIfInBounds_toArray, List.set_cons_zero, List.set_cons_succ]
          refine wpAnyH_names fun ops Q a0 hops hQ ha => ?_
          obtain ⟨F, hF⟩ : ∃ F : (Nat → Value) → Value → Act, F = fun vs p => ((((a0.put (some 53) (vs 0)).put (some 54) (vs 1)).put (some 55) (vs 2)).put (some 56) (vs 3)).put (some 13) p := ⟨_, rfl⟩
          have f0 : a0 = F (fun _ => undef) undef := by rw [hF, ha]; kernel_rfl
          have g0 : ∀ vs p x, (F vs p).put (some 53) x = F (upd vs 0 x) p := fun vs p x => by rw [hF, ha]; kernel_rfl
          have g1 : ∀ vs p x, (F vs p).put (some 54) x = F (upd vs 1 x) p := fun vs p x => by rw [hF, ha]; kernel_rfl
          have g2 : ∀ vs p x, (F vs p).put (some 55) x = F (upd vs 2 x) p := fun vs p x => by rw [hF, ha]; kernel_rfl
          have g3 : ∀ vs p x, (F vs p).put (some 56) x = F (upd vs 3 x) p := fun vs p x => by rw [hF, ha]; kernel_rfl
          have g4 : ∀ vs x, (F vs undef).put (some 13) x = F vs x := fun vs x => by rw [hF, ha]; kernel_rfl
          rw [f0]
          refine wpAnyH_float (m := 4) (fuel := 1) (fun k => [3, 4, 5, 6].getD k 0) 7 13 (.cells (tlc tl0) 24) F (fun k b => #[true, true, true, decide (1 ≤ k), decide (2 ≤ k), decide (3 ≤ k), decide (4 ≤ k), b, false])
            (fun k vs W => (k = 1 → ∃ q, vs 0 = .slice (some ⟨q, 0, none⟩) 2 2 ∧ Tls W (some ⟨q, 0, none⟩) [y, z]) ∧ (k = 2 → vs 1 = tlv (joinT [y, z])) ∧ (k = 3 → ∃ q, vs 2 = .slice (some ⟨q, 0, none⟩) 2 2 ∧ Tls W (some ⟨q, 0, none⟩) [x, joinT [y, z]]) ∧ (k = 4 → vs 3 = tlv (joinT [x, joinT [y, z]]))) w11
            (by rw [hops]; rfl) rfl (fun vs p => by rw [hops]; kernel_rfl) (fun vs W => by kernel_rfl) g4 ?hLf ?hLi ?r0 ?r1 ?r2 ?hI (fun W h => h.mono (fun _ _ h => h.elim)) ?step ?tail _ _ ⟨fun h => (nomatch h), fun h => (nomatch h), fun h => (nomatch h), fun h => (nomatch h)⟩ hC0
          case hLf => intro k hk; rcases (by omega : k = 0 ∨ k = 1 ∨ k = 2 ∨ k = 3 ∨ k = 4) with rfl | rfl | rfl | rfl | rfl <;> rfl
          case hLi => intro k b hk; rcases (by omega : k = 0 ∨ k = 1 ∨ k = 2 ∨ k = 3) with rfl | rfl | rfl | rfl <;> rfl
          case r0 => intro k hk; subst hops; rcases (by omega : k = 0 ∨ k = 1 ∨ k = 2 ∨ k = 3) with rfl | rfl | rfl | rfl <;> kernel_rfl
          case r1 => intro k hk; subst hops; rcases (by omega : k = 0 ∨ k = 1 ∨ k = 2 ∨ k = 3) with rfl | rfl | rfl | rfl <;> kernel_rfl
          case r2 => subst hops; kernel_rfl
          case hI =>
            rintro k vs W W' ⟨h1, h2, h3, h4⟩ hW
            exact ⟨fun h => by obtain ⟨q, e, f⟩ := h1 h; exact ⟨q, e, f.calm hW⟩, h2, fun h => by obtain ⟨q, e, f⟩ := h3 h; exact ⟨q, e, f.calm hW⟩, h4⟩
          case step =>
            rintro k vs p' W K hk ⟨h1, h2, h3, h4⟩ hc hK
            subst hops
            rcases (by omega : k = 0 ∨ k = 1 ∨ k = 2 ∨ k = 3) with rfl | rfl | rfl | rfl
            · refine wpOp_value 3 53 (.slice (some ⟨W.heap.size, 0, none⟩) 2 2) (w' := W.alloc (.cells #[.int .i64 y.c, .int .i64 y.s, .int .i64 y.m, .int .i64 y.x, .int .i64 z.c, .int .i64 z.s, .int .i64 z.m, .int .i64 z.x] 24)) rfl rfl (by kernel_rfl) (by rw [hF, ha]; kernel_rfl) ?_
              rw [g0]
              exact hK _ _ ((Touch.refl _ _).alloc _) ⟨fun _ => ⟨_, rfl, tls_two W y z _⟩, fun h => (nomatch h), fun h => (nomatch h), fun h => (nomatch h)⟩
            · obtain ⟨q, e, f⟩ := h1 rfl
              refine wpOp_enter 4 54 16 #[vs 0] rfl rfl (by kernel_rfl) (by rw [hF, ha]; kernel_rfl) ?_
              rw [e]
              refine (CJ W q y z f).out.mono ?_
              rintro r W' ⟨rfl, hW⟩
              exact ⟨_, rfl, by rw [g1]; exact hK _ _ hW ⟨fun h => (nomatch h), fun _ => rfl, fun h => (nomatch h), fun h => (nomatch h)⟩⟩
            · have e := h2 rfl
              refine wpOp_value 5 55 (.slice (some ⟨W.heap.size, 0, none⟩) 2 2) (w' := W.alloc (.cells #[.int .i64 x.c, .int .i64 x.s, .int .i64 x.m, .int .i64 x.x, .int .i64 (joinT [y, z]).c, .int .i64 (joinT [y, z]).s, .int .i64 (joinT [y, z]).m, .int .i64 (joinT [y, z]).x] 24)) rfl rfl (by kernel_rfl) (by rw [hF, ha]; simp only [e]; kernel_rfl) ?_
              rw [g2]
              exact hK _ _ ((Touch.refl _ _).alloc _) ⟨fun h => (nomatch h), fun h => (nomatch h), fun _ => ⟨_, rfl, tls_two W x (joinT [y, z]) _⟩, fun h => (nomatch h)⟩
            · obtain ⟨q, e, f⟩ := h3 rfl
              refine wpOp_enter 6 56 16 #[vs 2] rfl rfl (by kernel_rfl) (by rw [hF, ha]; kernel_rfl) ?_
              rw [e]
              refine (CJ W q x (joinT [y, z]) f).out.mono ?_
              rintro r W' ⟨rfl, hW⟩
              exact ⟨_, rfl, by rw [g3]; exact hK _ _ hW ⟨fun h => (nomatch h), fun h => (nomatch h), fun h => (nomatch h), fun _ => rfl⟩⟩
          case tail =>
            rintro vs q2 W ⟨-, -, -, h4⟩ hc hq2 hh
            have e := h4 rfl
            rw [K2.out] at e
            generalize hv0 : vs 0 = u0
            generalize hv1 : vs 1 = u1
            generalize hv2 : vs 2 = u2
            rw [hF, ha]
            simp only [e, hv0, hv1, hv2]
            subst hops hQ
            clear hF ha f0 g0 g1 g2 g3 g4 h4 e hv0 hv1 hv2
            simp only [Act.put, List.setIfInBounds_toArray, List.set_cons_zero, List.set_cons_succ]
            obtain ⟨A7, T7⟩ := tl_set t hh
            obtain ⟨c0, c1, c2, c3⟩ := tl_cells hh
            obtain ⟨z0, z1, z2, z3⟩ := tl_frozen hh
            have SS : Touch (fun k => w11.heap.size ≤ k) w11 _ := Touch.trans (hc.mono (S' := fun k => w11.heap.size ≤ k) (fun _ _ h => h.elim)) T7 (fun k _ e => by omega)
            refine wpAnyH_do 8 ((((W.setCell ⟨q2, 0, none⟩ (.int .i64 t.c)).setCell ⟨q2, 1, none⟩ (.int .i64 t.s)).setCell ⟨q2, 2, none⟩ (.int .i64 t.m)).setCell ⟨q2, 3, none⟩ (.int .i64 t.x)) rfl (by kernel_rfl) (by kernel_rfl) (fun K hK => by unfold Oper.wp; go_simp; exact hK) SS ?_
            have X8 := SS.heap HX.out (by omega)
            have Y8 := SS.heap HY.out (by omega)
            have Z8 := SS.heap HZ.out (by omega)
            have V8 := SS.heap HV.out (by omega)
            have Q8 := SS.heap HQ1.out (by omega)
            have S8 := HS.out.touch SS (fun g hg h => by have := HS.out.lt hg; omega)
            have T12 : Calm w _ := HT.out.trans SS (fun k hk h => by have := HT.out.size; omega)
            refine wpAnyH_done (by kernel_rfl) ?_ _
            generalize ((((W.setCell ⟨q2, 0, none⟩ (.int .i64 t.c)).setCell ⟨q2, 1, none⟩ (.int .i64 t.s)).setCell ⟨q2, 2, none⟩ (.int .i64 t.m)).setCell ⟨q2, 3, none⟩ (.int .i64 t.x)) = w12 at *
            clear HX HY HZ HV HQ1 HS HT T7 SS hh hc c0 c1 c2 c3 z0 z1 z2 z3 hX hY hZ hV hQ1 hT0 hC0 hq2
            have C5 := hide (join_any (some ⟨w12.heap.size, 0, none⟩) 5 [z, tl0, y, x, ⟨-3, 9, -9, 9⟩] _ (tls_five w12 z tl0 y x ⟨-3, 9, -9, 9⟩ 24) (by simp))
            rw [K3.out] at C5
            have hN := HL.out
            have hc7 := K7.out
            have CN := fun w => hide (can_any t w (fun h => absurd (hc7.symm.trans h) (by omega)))
            have CM := fun w => hide (can_any (addT t p.v) w (fun h => absurd h KM.out))
            have CK := fun w => hide (can_any (joinT [t, x]) w (fun h => absurd h KJ.out))
            have CA := fun w => hide (add_any t p.v w)
            rw [K4.out] at CN
            rw [K5.out] at CM
            rw [K6.out] at CK
            generalize addT t p.v = ta at *
            have CX := fun (w' : World) => hide (join_any (some ⟨w'.heap.size, 0, none⟩) 2 [t, x] _ (tls_two w' t x 24) (by simp))
            generalize joinT [t, x] = tx at *
            clear K3 K4 K5 K6 KM KJ hN hc7 CJ K1 K2
            obtain ⟨c0, c1, c2, c3⟩ := tl_cells X8
            obtain ⟨d0, d1, d2, d3⟩ := tl_cells Y8
            obtain ⟨e0, e1, e2, e3⟩ := tl_cells Z8
            have HX := hide X8
            have HV := hide V8
            have HQ1 := hide Q8
            have HQ2 := hide A7
            have HS := hide S8
            have HT := hide T12
            clear X8 Y8 Z8 V8 Q8 A7 S8 T12
            go_wp2_with fail
            refine C5.out.mono ?_
            rintro e w13 ⟨rfl, T13⟩
            have X9 := T13.at (al_old HX.out _)
            have V9 := T13.at (al_old HV.out _)
            have P9 := T13.at (al_old HQ1.out _)
            have Q9 := T13.at (al_old HQ2.out _)
            have S9 := (HS.out.alloc _).calm T13
            have T14 := (HT.out.alloc _).tr T13
            clear HX HV HQ1 HQ2 HS HT T13 C5 c0 c1 c2 c3 d0 d1 d2 d3 e0 e1 e2 e3
            obtain ⟨c0, c1, c2, c3⟩ := tl_cells V9
            obtain ⟨d0, d1, d2, d3⟩ := tl_cells P9
            obtain ⟨e0, e1, e2, e3⟩ := tl_cells Q9
            have lV := lt_of_heap V9
            have lP := lt_of_heap P9
            have lQ := lt_of_heap Q9
            have nV : w13.heap.size ≠ V := by omega
            have nP : w13.heap.size ≠ q1 := by omega
            have nQ : w13.heap.size ≠ q2 := by omega
            have HX := hide X9
            have HV := hide V9
            have HS := hide S9
            have HT := hide T14
            clear X9 V9 P9 Q9 S9 T14
            go_wp2_with fail
            refine (CN _).out.mono ?_
            rintro e w14 ⟨rfl, T⟩
            have X9 := T.at (al_old HX.out _)
            have V9 := T.at (al_old HV.out _)
            have S9 := (HS.out.alloc _).calm T
            have T9 := (HT.out.alloc _).tr T
            clear HX HV HS HT T
            clear c0 c1 c2 c3 d0 d1 d2 d3 e0 e1 e2 e3 lV lP lQ nV nP nQ CN
            have HX := hide X9
            have HV := hide V9
            have HS := hide S9
            have HT := hide T9
            clear X9 V9 S9 T9
            obtain ⟨c0, c1, c2, c3⟩ := tl_cells HV.out
            obtain ⟨d0, d1, d2, d3⟩ := tl_cells HX.out
            go_wp2_with fail
            refine (CA _).out.mono ?_
            rintro e w15 ⟨rfl, T⟩
            have X9 := T.at HX.out
            have V9 := T.at HV.out
            have S9 := HS.out.calm T
            have T9 := HT.out.tr T
            clear HX HV HS HT T
            clear c0 c1 c2 c3 d0 d1 d2 d3 CA
            have HX := hide X9
            have HV := hide V9
            have HS := hide S9
            have HT := hide T9
            clear X9 V9 S9 T9
            obtain ⟨c0, c1, c2, c3⟩ := tl_cells HV.out
            obtain ⟨d0, d1, d2, d3⟩ := tl_cells HX.out
            go_wp2_with fail
            refine (CM _).out.mono ?_
            rintro e w16 ⟨rfl, T⟩
            have X9 := T.at HX.out
            have V9 := T.at HV.out
            have S9 := HS.out.calm T
            have T9 := HT.out.tr T
            clear HX HV HS HT T
            clear c0 c1 c2 c3 d0 d1 d2 d3 CM
            have HX := hide X9
            have HV := hide V9
            have HS := hide S9
            have HT := hide T9
            clear X9 V9 S9 T9
            obtain ⟨c0, c1, c2, c3⟩ := tl_cells HV.out
            obtain ⟨d0, d1, d2, d3⟩ := tl_cells HX.out
            go_wp2_with fail
            refine (CX _).out.mono ?_
            rintro e w17 ⟨rfl, T⟩
            have X9 := T.at (al_old HX.out _)
            have V9 := T.at (al_old HV.out _)
            have S9 := (HS.out.alloc _).calm T
            have T9 := (HT.out.alloc _).tr T
            clear HX HV HS HT T
            clear c0 c1 c2 c3 d0 d1 d2 d3 CX
            have HX := hide X9
            have HV := hide V9
            have HS := hide S9
            have HT := hide T9
            clear X9 V9 S9 T9
            obtain ⟨c0, c1, c2, c3⟩ := tl_cells HV.out
            obtain ⟨d0, d1, d2, d3⟩ := tl_cells HX.out
            go_wp2_with fail
            refine (CK _).out.mono ?_
            rintro e w18 ⟨rfl, T⟩
            have X9 := T.at HX.out
            have V9 := T.at HV.out
            have S9 := HS.out.calm T
            have T9 := HT.out.tr T
            clear HX HV HS HT T
            clear c0 c1 c2 c3 d0 d1 d2 d3 CK
            have HX := hide X9
            have HV := hide V9
            have HS := hide S9
            have HT := hide T9
            clear X9 V9 S9 T9
            have CL : ∃ (r : Nat) (ok : Bool), (∀ w, Hid (Calls Tryd.prog 20 #[tlv t] w fun e w' => e = .returned (.tuple #[.float .f64 r, .bool ok]) ∧ Calm w w')) ∧ ok = decide (0 < N) ∧ (N ≠ 0 → N ≤ 4000 → smallB al = true → Fl.Leq (floatOfInt .f64 t.m) r ∧ Fl.Leq r (floatOfInt .f64 t.x)) := by
              have h7 := K7.out
              have h8 := K8.out
              have hl := HL.out
              by_cases h0 : N = 0
              · exact ⟨0, false, fun w => hide (mean_no t (by omega) w), by simp [h0], fun h => absurd h0 h⟩
              · obtain ⟨r, hr⟩ := Fl.div_some (s := t.s) (c := t.c) (by rw [h8]; have := wrap64_in (tot al); unfold I64 at this; omega) (by omega) (by omega)
                exact ⟨r, true, fun w => hide (mean_yes t (by omega) r hr w), by simp; omega, fun _ h4 hs => K9.out r (by omega) h4 (smallB_all hs) hr⟩
            obtain ⟨r, ok, CL, hok, HM⟩ := CL
            have HOK := hide hok
            have HMM := hide HM
            clear hok HM K9 HI
            obtain ⟨c0, c1, c2, c3⟩ := tl_cells HV.out
            obtain ⟨d0, d1, d2, d3⟩ := tl_cells HX.out
            go_wp2_with fail
            refine (CL _).out.mono ?_
            rintro e w19 ⟨rfl, T⟩
            have X9 := T.at HX.out
            have V9 := T.at HV.out
            have S9 := HS.out.calm T
            have T9 := HT.out.tr T
            clear HX HV HS HT T
            clear c0 c1 c2 c3 d0 d1 d2 d3 CL
            have HX := hide X9
            have HV := hide V9
            have HS := hide S9
            have HT := hide T9
            clear X9 V9 S9 T9
            have hat : Hid (∀ k, k < N → ∃ b off, ao3 = some ⟨b, off, none⟩ ∧ w19.cell? ⟨b, off + k, none⟩ = some (.int .i64 (al.getD k 0))) := hide fun k hk => by
              have sg := Seg.of_row HS.out
              have hl := HNN.out
              obtain ⟨b, off, e⟩ := sg.addr (by omega)
              subst e
              exact ⟨b, off, rfl, sg.at k (by omega)⟩
            have NB := hide (smallB_next al)
            have NT := hide (tot_next al)
            have EB : Hid (smallB (al.take N) = smallB al) := hide (by rw [← HNN.out, List.take_length])
            have ET : Hid (wrap64 (tot (al.take N)) = t.s) := hide (by rw [← HNN.out, List.take_length, K8.out])
            have hNb := HL.out
            go_wp2_with fail
            go_loopw [17, 18, 19] (fun sm su i wr => ∃ k : Nat, i = .int .i64 k ∧ k ≤ N ∧ sm = .bool (smallB (al.take k)) ∧ su = .int .i64 (wrap64 (tot (al.take k))) ∧ wr = w19) (fun _ _ i _ => N - (intOf i).toNat)
            case atStart => exact ⟨0, rfl, Nat.zero_le _, rfl, by show _ = Value.int .i64 (wrap64 0); rw [wrap64_id (by unfold I64; omega)], rfl⟩
            case round =>
              obtain ⟨k, rfl, hk, rfl, rfl, rfl⟩ := hrel
              by_cases hlt : k < N
              · obtain ⟨b, off, rfl, hcell⟩ := hat.out k hlt
                have NB' := hide (NB.out k (by have := HNN.out; omega))
                have NT' := hide (NT.out k (by have := HNN.out; omega))
                generalize smallB (al.take k) = sb at *
                generalize wrap64 (tot (al.take k)) = su at *
                generalize al.getD k 0 = n at *
                have hki : (k : Int) < (N : Int) := by omega
                clear NB NT EB ET hat
                generalize hp1 : decide (-1099511627776 < n) = p1 at *
                generalize hp2 : decide (n < 1099511627776) = p2 at *
                cases sb <;> cases p1 <;> cases p2
                all_goals
                  go_wp2_with fail
                  go_roundw
                  case rel => exact ⟨k + 1, by go_num, by omega, by rw [NB'.out]; rfl, by rw [NT'.out], by first | rfl | trivial⟩
                  case measure => simp [intOf]; omega
              · have e : k = N := by omega
                subst e
                rw [EB.out, ET.out]
                obtain ⟨c0, c1, c2, c3⟩ := tl_cells HV.out
                rw [K7.out] at c0
                clear NB NT EB ET hat
                by_cases h0 : k = 0
                · subst h0
                  have hok := HOK.out
                  simp only [Nat.lt_irrefl, decide_false] at hok
                  subst hok
                  clear HMM HOK
                  go_wp2_with fail
                  refine (C8 _).out.mono ?_
                  rintro e w20 ⟨rfl, T⟩
                  have TZ := hide (HT.out.tr T)
                  clear T
                  go_wp2_with fail
                  go_ret
                  exact ⟨rfl, TZ.out⟩
                · have hpos : (0 : Int) < (k : Int) := by omega
                  have hok := HOK.out
                  rw [decide_eq_true (by omega : 0 < k)] at hok
                  subst hok
                  have HM := HMM.out
                  clear HMM HOK
                  cases hsb : smallB al with
                  | false =>
                    clear HM
                    go_wp2_with fail
                    refine (C8 _).out.mono ?_
                    rintro e w20 ⟨rfl, T⟩
                    have TZ := hide (HT.out.tr T)
                    clear T
                    go_wp2_with fail
                    go_ret
                    exact ⟨rfl, TZ.out⟩
                  | true =>
                    by_cases h4 : 4000 < k
                    · have h4' : (4000 : Int) < (k : Int) := by omega
                      clear HM
                      go_wp2_with fail
                      refine (C8 _).out.mono ?_
                      rintro e w20 ⟨rfl, T⟩
                      have TZ := hide (HT.out.tr T)
                      clear T
                      go_wp2_with fail
                      go_ret
                      exact ⟨rfl, TZ.out⟩
                    · have h4' : ¬ (4000 : Int) < (k : Int) := by omega
                      have hM := HM h0 (by omega) hsb
                      have f1 : (FloatKind.f64.format.order r (floatOfInt .f64 t.m) == some .gt || FloatKind.f64.format.order r (floatOfInt .f64 t.m) == some .eq) = true := hM.1.2
                      have f2 : (FloatKind.f64.format.order r (floatOfInt .f64 t.x) == some .lt || FloatKind.f64.format.order r (floatOfInt .f64 t.x) == some .eq) = true := hM.2.1
                      clear HM hM
                      have k1 : FloatKind.f64.format.order r (floatOfInt .f64 t.m) = some .gt ∨ FloatKind.f64.format.order r (floatOfInt .f64 t.m) = some .eq := by simpa using f1
                      have k2 : FloatKind.f64.format.order r (floatOfInt .f64 t.x) = some .lt ∨ FloatKind.f64.format.order r (floatOfInt .f64 t.x) = some .eq := by simpa using f2
                      clear f1 f2
                      rcases k1 with k1 | k1 <;> rcases k2 with k2 | k2
                      all_goals
                        go_wp2_with fail
                        refine (C8 _).out.mono ?_
                        rintro e w20 ⟨rfl, T⟩
                        have TZ := hide (HT.out.tr T)
                        clear T
                        go_wp2_with fail
                        go_ret
                        exact ⟨rfl, TZ.out⟩

end Go.Proofs.YtakpeopghhblmaaDoor
