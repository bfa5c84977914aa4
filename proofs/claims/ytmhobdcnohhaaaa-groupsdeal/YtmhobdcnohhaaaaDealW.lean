/- The walk of GroupsDeal where Deal says yes. -/
import Derived.Test.YtmhobdcnohhaaaaDealV
namespace Go.Proofs.Ytmhobdcnohhaaaa
open Go.RowKit

/-- What the first answer's lists are while they are spoilt, one after another. -/
structure Sp (A Oa P : Nat) (va : List Value) (ls : List (List ByteArray)) (i : Nat) (W : World) : Prop where
  ex : ∃ va' ls', Dl A W Oa va' ls' ∧ va'.length = P ∧ (∀ j, i ≤ j → va'[j]? = va[j]?) ∧ ∀ j, i ≤ j → ls'[j]? = ls[j]?

theorem Dl.shape {base O : Nat} {W : World} {vs : List Value} {ls : List (List ByteArray)} (h : Dl base W O vs ls) (i : Nat) (hi : i < vs.length) (hl : i < ls.length) :
    ∃ ao c, vs[i] = .slice ao ls[i].length c ∧ W.ownsRow base 9 1 (.slice ao ls[i].length c) ls[i].length (ls[i].map Value.string) ∧ W.cell? ⟨O, i, none⟩ = some (.slice ao ls[i].length c) ∧ W.frozen? ⟨O, i, none⟩ = false := by
  have own := h.own i hi
  obtain ⟨c1, c2⟩ := h.cell i hi
  obtain ⟨ao, c, e⟩ := own_shape own
  rw [e] at own c1
  exact ⟨ao, c, e, own, c1, c2⟩

theorem sum_wrap {a b c : Nat} (hc : c = a + b) (h : a + b ≤ 8796093021952) : wrap64 ((a : Int) + (b : Int)) = (c : Int) := by subst hc; unfold wrap64; omega

theorem tall_bound {ls : List (List ByteArray)} {k n m : Nat} (hk : k < ls.length) (h1 : tall ls = m) (h2 : m = n) (h3 : n ≤ 8796093021952) : tall (ls.take k) + ls[k].length ≤ 8796093021952 := by
  have a1 := tall_le ls (k + 1)
  rw [tall_take ls k hk] at a1
  omega

theorem ttt : ∀ u ∈ [Value.string spoiltT, .string spoiltT, .string spoiltT], u.oneCell' = true := fun u hu => by simp at hu; subst hu; rfl

set_option maxRecDepth 100000 in
set_option maxHeartbeats 4000000 in
theorem gdeal_yes (P G : Nat) (may : May P G) (T : Txs) (hks : ∀ s ∈ T.ks, s.size ≤ 256) (w : World) (hT : T.Ok w) : Calls Try.prog 6 #[.int .i64 P, .int .i64 G, T.val] w fun e w' => e = .returned (.bool true) ∧ Touch (fun _ => False) w w' := by
  obtain ⟨i1, hj, hy0, hy1, hy2⟩ := info_parts2 infoStr
  have HT := hide hT
  have HM := hide may
  have HK := hide hT.seg
  have HKL := hide hT.low
  have HL := hide hT.len
  have HKS := hide hks
  obtain ⟨ao, c, ks⟩ := T
  have eT : Hid ((⟨ao, c, ks⟩ : Txs).val = .slice ao ks.length c) := hide rfl
  simp only at HK HKL HL HKS
  rw [eT.out]
  clear hT hks may
  go_enter Try.func6, Try.ntmps6
  go_wp2_with (at_builtin; refine wpList_append_copy _ rfl (.const (.slice none 0 0)) (.tmp 18) 55 rfl i1 Try.underlying55 hj hy0 hy1 hy2 rfl ⟨ao, c, ks⟩ HT.out rfl ?nx)
  case nx =>
    intro ao1 c1 w1 own1 t1
    generalize hn : ks.length = n at *
    have HN := hide hn
    have tz := (Touch.refl (fun _ => False) w1).alloc (.cells #[.string room] 9)
    have OZ := hide (own_touch own1 tz (fun _ _ h => h))
    have TZ := hide (t1.trans tz (fun _ _ h => h))
    have HLO : Hid (∀ g', (Value.slice ao1 n c1).ownBlock = some g' → w.heap.size ≤ g') := hide (fun g' hg' => (own_block own1 hg').1)
    have HB1 : Hid (n + 1 ≤ maxLen) := hide (by have := HL.out; unfold maxLen; omega)
    have HB2 : Hid ((n + 1) * 16 ≤ 140737488355328) := hide (by have := HL.out; omega)
    have H1C : Hid (∀ u ∈ [Value.string room], u.oneCell' = true) := hide (fun u hu => by simp at hu; subst hu; rfl)
    clear tz own1 t1 hn HT
    go_wp2_with (at_builtin; refine wpList_append_sep _ rfl (.tmp 19) (.tmp 20) 55 rfl w.heap.size 9 i1 (.string { data := #[] }) 1 16 Try.underlying55 hj hy0 hy1 hy2 rfl (by decide) _ n (ks.map Value.string) rfl OZ.out ⟨w1.heap.size, 0, none⟩ 1 1 [.string room] rfl rfl (new_cells w1 [.string room] _) H1C.out HB1.out HB2.out TZ.out.size (by omega) ?ny)
    case ny =>
      intro ao2 c2 w2 own2 t2 f2
      obtain ⟨B, rfl, hB, hc2, cpy⟩ := copied HN.out own2
      have T2 := hide (TZ.out.trans t2 (fun g' hg' hs => by have := HLO.out g' hs; omega))
      have hci : (n : Int) ≤ (c2 : Int) := by omega
      have hci2 : ((n + 1 : Nat) : Int) ≤ (c2 : Int) := by omega
      have hwr := wrap_up (n := n) (m := n + 1) (by omega) (by have := HL.out; omega)
      have hni : (n : Int) < ((n + 1 : Nat) : Int) := by omega
      have SK := hide (HK.out.touch T2.out (fun _ _ _ _ h => h))
      have CP := hide cpy
      have LT2 : Hid (B < w2.heap.size ∧ ∀ b off, ao = some ⟨b, off, none⟩ → 0 < ks.length → b < w2.heap.size) := hide ⟨cpy.lt, fun b off h1 h2 => by have := HKL.out b off h1 (by rw [← HN.out]; exact h2); have := T2.out.size; omega⟩
      have K1 := hide (fun W (h : Touch (fun _ => False) w2 W) => deal_n P G HM.out (some ⟨B, 0, none⟩) c2 ks n HN.out HL.out HKS.out W (CP.out.touch h (fun h => h)).seg)
      have K4 := hide (fun W (h : Touch (fun _ => False) w2 W) => rdeal_n P G HM.out ao c ks n HN.out HL.out HKS.out W (SK.out.touch h (fun _ _ _ _ h => h)))
      have HTA := hide (tall_dealt HM.out ks)
      have HLS : Hid ((dealt P G ks).length = P) := hide (dealt_len P G ks)
      have HP : Hid (P ≤ 32768) := hide (Nat.le_trans HM.out.p2 HM.out.g2)
      generalize dealt P G ks = ls at *
      clear own2 t2 f2 OZ TZ cpy HLO HB1 HB2 H1C hB hc2
      go_wp2_with fail
      refine (K1.out _ (Touch.refl _ _)).mono ?_
      rintro e w3 ⟨Oa, va, rfl, hva, da, t3⟩
      have DA := hide da
      have T3 := hide t3
      have HVA := hide hva
      clear da t3 hva
      go_wp2_with fail
      refine (K1.out _ T3.out).mono ?_
      rintro e w4 ⟨Ob, vb, rfl, hvb, db, t4⟩
      have DB := hide db
      have T4 := hide t4
      have HVB := hide hvb
      clear db t4 hvb
      go_wp2_with fail
      refine (K4.out _ (T3.out.trans T4.out (fun _ _ h => h))).mono ?_
      rintro e w5 ⟨Oc, vc, rfl, hvc, dc, t5⟩
      have DC := hide dc
      have T5 := hide t5
      have HVC := hide hvc
      clear dc t5 hvc K1 K4
      have T25 := hide ((T3.out.trans T4.out (fun _ _ h => h)).trans T5.out (fun _ _ h => h))
      have KS := hide (sameTexts_any (some ⟨B, 0, none⟩) ao c2 c ks n HN.out (by have := HL.out; omega) w5 (CP.out.touch T25.out (fun h => h)).seg (SK.out.touch T25.out (fun _ _ _ _ h => h)))
      go_wp2_with (go_at_call 18; refine (num_any _ _).mono ?_; rintro e w' ⟨rfl, hq⟩; obtain rfl := hq.symm; clear hq)
      refine KS.out.mono ?_
      rintro e w6 ⟨rfl, k6, rfl⟩
      have T26 := hide (T25.out.drewN k6)
      have T36 := hide ((T4.out.trans T5.out (fun _ _ h => h)).drewN k6)
      have T46 := hide (T5.out.drewN k6)
      have T56 := hide ((Touch.refl (fun _ => False) w5).drewN k6)
      clear KS T25 T5
      generalize w5.drewN k6 = w6 at *
      have CP6 := hide (CP.out.touch T26.out (fun h => h))
      have SK6 := hide (SK.out.touch T26.out (fun _ _ _ _ h => h))
      have DA6 := hide (DA.out.touch T36.out (fun h => h) (fun _ _ _ _ h => h))
      have DB6 := hide (DB.out.touch T46.out (fun h => h) (fun _ _ _ _ h => h))
      have DC6 := hide (DC.out.touch T56.out (fun h => h) (fun _ _ _ _ h => h))
      have T6 := hide (T2.out.trans T26.out (fun _ _ h => h))
      have HVL : Hid (∀ i (h : i < va.length) g', va[i].ownBlock = some g' → g' < w3.heap.size) := hide (fun i h g' hg' => by
        obtain ⟨_, cur, hc⟩ := own_block (DA.out.own i h) hg'
        exact lt_of_heap hc)
      have HOL : Hid (Oa < w3.heap.size) := hide (lt_of_heap DA.out.row)
      have HA1 : Hid (w.heap.size ≤ w2.heap.size) := hide T2.out.size
      have HA2 : Hid (w3.heap.size ≤ w4.heap.size) := hide T4.out.size
      clear CP SK DA DB DC T2 T3 T4 T26 T36 T46 T56 HK HKL
      have LT := LT2
      generalize w2.heap.size = A at *
      generalize w3.heap.size = A2 at *
      generalize w4.heap.size = A3 at *
      clear LT2
      -- what stays while the first answer is spoilt
      have KM : Hid (∀ W, Touch (fun g' => A ≤ g' ∧ g' < A2) w6 W → SegT W (some ⟨B, 0, none⟩) ks ∧ SegT W ao ks) := hide (fun W h => ⟨(CP6.out.touch h (fun hs => by have := LT.out.1; omega)).seg, SK6.out.touch h (fun b off e h0 hs => by have := LT.out.2 b off e h0; omega)⟩)
      have KB : Hid (∀ W, Touch (fun g' => A ≤ g' ∧ g' < A2) w6 W → Dl A2 W Ob vb ls) := hide (fun W h => DB6.out.touch h (fun hs => by have := DB6.out.lo; omega) (fun i hi g' hg' hs => by have := (own_block (DB6.out.own i hi) hg').1; omega))
      have KC : Hid (∀ W, Touch (fun g' => A ≤ g' ∧ g' < A2) w6 W → Dl A3 W Oc vc ls) := hide (fun W h => DC6.out.touch h (fun hs => by have := DC6.out.lo; have := HA2.out; omega) (fun i hi g' hg' hs => by have := (own_block (DC6.out.own i hi) hg').1; have := HA2.out; omega))
      have r6 := CP6.out.room
      have S0 : Hid (Sp A Oa P va ls 0 w6) := hide ⟨va, ls, DA6.out, HVA.out, fun _ _ => rfl, fun _ _ => rfl⟩
      clear DA6 DB6 DC6 CP6 SK6
      go_wp2_with fail
      clear hwr hni hci hci2 r6
      go_loopw [14, 15] (fun x i wr => ∃ k : Nat, i = .int .i64 (k : Int) ∧ x = .int .i64 ((tall (ls.take k) : Nat) : Int) ∧ k ≤ P ∧ Sp A Oa P va ls k wr ∧ Touch (fun g' => A ≤ g' ∧ g' < A2) w6 wr) (fun _ i _ => P - (intOf i).toNat)
      case atStart => exact ⟨0, rfl, rfl, Nat.zero_le _, S0.out, Touch.refl _ _⟩
      case round =>
        obtain ⟨k, rfl, rfl, hk, sp, tk⟩ := hrel
        by_cases hlt : k < P
        · rename World => wk
          have hlt' : (k : Int) < (P : Int) := by omega
          obtain ⟨va', ls', hd, hva', hv, hl⟩ := sp.ex
          have hka : k < va'.length := by omega
          have hkl : k < ls.length := by rw [HLS.out]; exact hlt
          have hkl' : k < ls'.length := by rw [hd.len]; exact hka
          have e1 : ls'[k] = ls[k] := by
            have := hl k (Nat.le_refl _)
            rw [List.getElem?_eq_getElem hkl', List.getElem?_eq_getElem hkl] at this
            injection this
          obtain ⟨a1, c1, eva, own1, q0, q1⟩ := hd.shape k hka hkl'
          rw [e1] at own1 q0 eva
          obtain ⟨a3, c3, _, own3, p0, _⟩ := (KC.out wk tk).shape k (by rw [HVC.out]; exact hlt) hkl
          have hkv : k < va.length := by rw [HVA.out]; exact hlt
          have HG : Hid (∀ g', (Value.slice a1 ls[k].length c1).ownBlock = some g' → A ≤ g' ∧ g' < A2) := hide (fun g' hg' => by
            refine ⟨(own_block own1 hg').1, HVL.out k hkv g' ?_⟩
            have := hv k (Nat.le_refl _)
            rw [List.getElem?_eq_getElem hka, List.getElem?_eq_getElem hkv] at this
            injection this with this
            rw [← this, eva]; exact hg')
          have hL : tall (ls.take (k + 1)) = tall (ls.take k) + ls[k].length := tall_take ls k hkl
          have hL2 : tall (ls.take k) + ls[k].length ≤ 8796093021952 := tall_bound hkl HTA.out HN.out HL.out
          have hws : wrap64 (((tall (ls.take k) : Nat) : Int) + ((ls[k].length : Nat) : Int)) = ((tall (ls.take (k + 1)) : Nat) : Int) := sum_wrap hL hL2
          have HLB : Hid (ls[k].length ≤ 8796093021952) := hide (Nat.le_trans (Nat.le_add_left _ _) hL2)
          have SW := hide (succ_wrap (k := k) (Nat.le_trans hk HP.out))
          have EVA : Hid (va'[k]'hka = .slice a1 ls[k].length c1) := hide eva
          have KS := hide (fun q => sameTexts_any a1 a3 c1 c3 ls[k] ls[k].length rfl (Nat.le_trans HLB.out (by decide)) (wk.drewN q) ((SegT.of_own own1).touch (Touch.drewN (Touch.refl (fun _ => False) wk) q) (fun _ _ _ _ h => h)) ((SegT.of_own own3).touch (Touch.drewN (Touch.refl (fun _ => False) wk) q) (fun _ _ _ _ h => h)))
          have HD := hide hd
          have HV := hide hv
          have HLL := hide hl
          have HVA' := hide hva'
          have OW := hide own1
          clear hd hv hl hva' e1 hL hL2 own1 own3 eva hkl' hkv sp
          generalize ls[k] = l at *
          clear hkl
          generalize hll : l.length = L at *
          have HLen := hide hll
          clear hll
          have CC : Hid (∀ W, Touch (fun g' => (Value.slice a1 L c1).ownBlock = some g') wk W → W.cell? ⟨Oa, k, none⟩ = some (.slice a1 L c1) ∧ W.frozen? ⟨Oa, k, none⟩ = false) := hide (fun W h => by
            have hne : ¬ (Value.slice a1 L c1).ownBlock = some Oa := fun hg => by
              obtain ⟨_, cur, hc⟩ := own_block OW.out hg
              exact tags (t := 9) (t' := 55) hc HD.out.row (by decide) rfl
            have hlt := lt_of_heap HD.out.row
            exact ⟨(h.cell (p := ⟨Oa, k, none⟩) hlt hne).trans q0, (h.frozen (p := ⟨Oa, k, none⟩) hlt hne).trans q1⟩)
          have TK := hide tk
          clear tk
          go_wp2_with fail
          go_quiet ((go_at_call 27; exact Calls.quiet_of (KS.out _)))
          go_wp2_with fail
          go_loopw [16] (fun i wy => ∃ (j : Nat) (l' : List ByteArray), i = .int .i64 (j : Int) ∧ j ≤ L ∧ wy.ownsRow A 9 1 (.slice a1 L c1) L (l'.map Value.string) ∧ Touch (fun g' => (Value.slice a1 L c1).ownBlock = some g') wk wy) (fun i _ => L - (intOf i).toNat)
          case atStart => exact ⟨0, l, rfl, Nat.zero_le _, own_touch OW.out (Touch.drewN (Touch.refl (fun _ => False) wk) _) (fun _ _ h => h), Touch.drewN (Touch.refl _ wk) _⟩
          case round =>
            obtain ⟨j, l', rfl, hj', oj, tj⟩ := hrel
            obtain ⟨q2, q3⟩ := CC.out _ tj
            by_cases hjl : j < L
            · have hji : (j : Int) < (L : Int) := by omega
              obtain ⟨b, rfl⟩ : ∃ b, a1 = some ⟨b, 0, none⟩ := by
                rcases oj.2 with ⟨h1, h2⟩ | ⟨b, cap, cur, h1, _⟩
                · omega
                · injection h1 with h1 _ _; exact ⟨b, h1⟩
              obtain ⟨_, cur, hcur⟩ := own_block oj rfl
              have hxl := oj.1
              have hcs := oj.cells (g := b) rfl
              obtain ⟨u, q4⟩ : ∃ u, wr.cell? ⟨b, j, none⟩ = some u := by
                have hx : j < (l'.map Value.string).length := by omega
                have := hcs j _ (List.getElem?_eq_getElem hx)
                rw [Addr.add_lit, Nat.zero_add] at this
                exact ⟨_, this⟩
              have q5 : wr.frozen? ⟨b, j, none⟩ = false := by simp [World.frozen?, hcur]
              have SJ := hide (wrap_up (n := j) (m := L) hjl (by have := HLB.out; omega))
              have HTJ : Hid (Touch (fun g' => (Value.slice (some ⟨b, 0, none⟩) L c1).ownBlock = some g') wk (wr.setCell ⟨b, j, none⟩ (.string spoiltT))) := hide (tj.trans ((Touch.refl (fun g' => g' = b) wr).setCell (p := ⟨b, j, none⟩) (fun _ => rfl) _) (fun g' _ e => by subst e; rfl))
              have HOJ := hide (own_spoil (j := j) oj)
              clear hcs hcur hxl oj tj
              go_wp2_with fail
              go_roundw
              case rel => exact ⟨j + 1, _, by rw [SJ.out], hjl, HOJ.out, HTJ.out⟩
              case measure => rw [SJ.out]; simp [intOf]; omega
            · have e : j = L := by omega
              subst e
              have tz := (Touch.refl (fun _ => False) wr).alloc (.cells #[.string spoiltT, .string spoiltT, .string spoiltT] 9)
              have OZ := hide (own_touch oj tz (fun _ _ h => h))
              have TZ := hide (tj.trans tz (fun _ _ h => h.elim))
              obtain ⟨q4, q5⟩ := CC.out _ TZ.out
              have TJS := hide tj.size
              have HSZ : Hid (A ≤ (wr.alloc (.cells #[.string spoiltT, .string spoiltT, .string spoiltT] 9)).heap.size) := hide (Nat.le_trans HD.out.lo (Nat.le_trans (Nat.le_of_lt (lt_of_heap HD.out.row)) TZ.out.size))
              have HB1 : Hid (j + 3 ≤ maxLen) := hide (Nat.le_trans (Nat.add_le_add_right HLB.out 3) (by decide))
              have HB2 : Hid ((j + 3) * 16 ≤ 140737488355328) := hide (Nat.le_trans (Nat.mul_le_mul_right 16 (Nat.add_le_add_right HLB.out 3)) (by decide))
              have HLn : Hid (l'.length = j) := hide (by have := oj.1; simpa using this)
              clear tz oj tj
              go_wp2_with (at_builtin; refine wpList_append_sep _ rfl (.tmp 125) (.tmp 126) 55 rfl A 9 i1 (.string { data := #[] }) 1 16 Try.underlying55 hj hy0 hy1 hy2 rfl (by decide) _ j (l'.map Value.string) rfl OZ.out ⟨wr.heap.size, 0, none⟩ 3 3 [.string spoiltT, .string spoiltT, .string spoiltT] rfl rfl (new_cells wr [.string spoiltT, .string spoiltT, .string spoiltT] _) ttt HB1.out HB2.out HSZ.out (by omega) ?nz)
              case nz =>
                intro ao9 c9 w9 own9 t9 f9
                have t10 : Touch (fun g' => (Value.slice a1 j c1).ownBlock = some g') wk w9 := TZ.out.trans t9 (fun _ _ h => h)
                obtain ⟨q6, q7⟩ := CC.out _ t10
                have own10 : w9.ownsRow A 9 1 (.slice ao9 (j + 3) c9) (l' ++ [spoiltT, spoiltT, spoiltT]).length ((l' ++ [spoiltT, spoiltT, spoiltT]).map Value.string) := by
                  rw [List.length_append, HLn.out, List.map_append]
                  exact own9
                have t11 : Touch (fun g' => (va'[k]'hka).ownBlock = some g') wk w9 := t10.mono (fun g' _ h => by rw [EVA.out]; exact h)
                have D7 := hide (HD.out.put hka t11 own10 (fun g' hg' => by
                  rw [EVA.out]
                  rcases f9 g' hg' with h | h
                  · exact .inl h
                  · exact .inr (Nat.le_trans TJS.out (Nat.le_trans (Nat.le_succ _) h))))
                have S7 : Hid (Sp A Oa P va ls (k + 1) (w9.setCell ⟨Oa, k, none⟩ (.slice ao9 (j + 3) c9))) := hide ⟨_, _, D7.out, by rw [List.length_set]; exact HVA'.out, fun j hj => by rw [List.getElem?_set_ne (by omega)]; exact HV.out j (by omega), fun j hj => by rw [List.getElem?_set_ne (by omega)]; exact HLL.out j (by omega)⟩
                have T7 : Hid (Touch (fun g' => A ≤ g' ∧ g' < A2) w6 (w9.setCell ⟨Oa, k, none⟩ (.slice ao9 (j + 3) c9))) := hide ((TK.out.trans t10 (fun g' _ hs => HG.out g' hs)).trans ((Touch.refl (fun g' => g' = Oa) w9).setCell (p := ⟨Oa, k, none⟩) (fun _ => rfl) _) (fun g' _ e => by subst e; exact ⟨HD.out.lo, HOL.out⟩))
                clear own9 own10 t9 t10 t11 f9 D7 OZ TZ
                go_wp2_with fail
                go_roundw
                case rel => exact ⟨k + 1, by rw [SW.out], rfl, hlt, S7.out, T7.out⟩
                case measure => rw [SW.out]; simp [intOf]; omega
        · have e : k = P := by omega
          subst e
          rename World => wk
          have hx : tall (ls.take k) = n := by rw [List.take_of_length_le (by rw [HLS.out]; exact Nat.le_refl _), HTA.out, HN.out]
          rw [hx]
          have T9 := hide (T6.out.trans tk (fun g' hg' hs => by have := HA1.out; omega))
          obtain ⟨km1, km2⟩ := KM.out wk tk
          have KS := hide (fun q => sameTexts_any (some ⟨B, 0, none⟩) ao c2 c ks n HN.out (Nat.le_trans HL.out (by decide)) (wk.drewN q) (km1.touch (Touch.drewN (Touch.refl (fun _ => False) wk) q) (fun _ _ _ _ h => h)) (km2.touch (Touch.drewN (Touch.refl (fun _ => False) wk) q) (fun _ _ _ _ h => h)))
          have B9 := hide (KB.out wk tk)
          have C9 := hide (KC.out wk tk)
          clear KM KB KC km1 km2 tk sp hx hlt hk
          go_wp2_with fail
          go_loopw [17] (fun i wr => ∃ j : Nat, i = .int .i64 (j : Int) ∧ j ≤ k ∧ ∃ q, wr = wk.drewN q) (fun i _ => k - (intOf i).toNat)
          case atStart => exact ⟨0, rfl, Nat.zero_le _, 0, rfl⟩
          case round =>
            obtain ⟨j, rfl, hj', q, hwq⟩ := hrel
            by_cases hlt : j < k
            · have hlt' : (j : Int) < (k : Int) := by omega
              have hjl : j < ls.length := by rw [HLS.out]; exact hlt
              have tq : Touch (fun _ => False) wk wr := by rw [hwq]; exact Touch.drewN (Touch.refl _ _) q
              obtain ⟨a1, c1, _, own1, q0, _⟩ := (B9.out.touch tq (fun h => h) (fun _ _ _ _ h => h)).shape j (by rw [HVB.out]; exact hlt) hjl
              obtain ⟨a3, c3, _, own3, p0, _⟩ := (C9.out.touch tq (fun h => h) (fun _ _ _ _ h => h)).shape j (by rw [HVC.out]; exact hlt) hjl
              have HWQ := hide hwq
              clear hwq tq
              have hL2 : tall (ls.take j) + ls[j].length ≤ 8796093021952 := tall_bound hjl HTA.out HN.out HL.out
              have SW := hide (succ_wrap (k := j) (Nat.le_trans hj' HP.out))
              have KT := hide (fun q => sameTexts_any a1 a3 c1 c3 ls[j] ls[j].length rfl (Nat.le_trans (Nat.le_trans (Nat.le_add_left _ _) hL2) (by decide)) (wr.drewN q) ((SegT.of_own own1).touch (Touch.drewN (Touch.refl (fun _ => False) wr) q) (fun _ _ _ _ h => h)) ((SegT.of_own own3).touch (Touch.drewN (Touch.refl (fun _ => False) wr) q) (fun _ _ _ _ h => h)))
              clear own1 own3 hL2
              generalize ls[j].length = L at *
              clear hjl
              go_wp2_with fail
              go_quiet ((go_at_call 27; exact Calls.quiet_of (KT.out _)))
              go_wp2_with fail
              go_roundw
              case rel => exact ⟨j + 1, by rw [SW.out], hlt, _, by rw [HWQ.out, World.drewN_drewN]⟩
              case measure => rw [SW.out]; simp [intOf]; omega
            · have e : j = k := by omega
              subst e
              subst hwq
              go_wp2_with fail
              refine (KS.out q).mono ?_
              rintro e w10 ⟨rfl, k10, rfl⟩
              go_wp2_with fail
              refine (known_any _).mono ?_
              rintro e w11 ⟨rfl, t11⟩
              go_wp2_with fail
              go_ret
              exact ⟨rfl, (T9.out.drewN _).trans t11 (fun _ _ h => h)⟩

theorem gdeal_walk (p g : Int) (T : Txs) (w : World) (hT : T.Ok w) : Calls Try.prog 6 #[.int .i64 p, .int .i64 g, T.val] w fun e w' => e = .returned (.bool true) ∧ Touch (fun _ => False) w w' := by
  by_cases h : mayW p g = true
  · by_cases hk : ∀ s ∈ T.ks, s.size ≤ 256
    · obtain ⟨P, G, rfl, rfl, m1⟩ := may_of h
      exact gdeal_yes P G m1 T hk w hT
    · exact gdeal_noes p g 3 T (fun n hn => no_long h hn (by rw [← hn]; exact hT.len) hk) w hT
  · exact gdeal_noes p g 2 T (fun n _ => no_may (by simpa using h) T.ks n) w hT

end Go.Proofs.Ytmhobdcnohhaaaa
