/- The walk of FrameJust. -/
import Derived.Test.YtfeifobljgmkkaaDoorFJustX
namespace Go.Proofs.YtfeifobljgmkkaaDoor
open Go.RowKit Crcx

theorem Bods.come {w wr : World} {v : Value} {ts : List Txt} (h : Bods w wr v ts) : Come w.heap.size wr v ts := ⟨h.own, fun x hx => ⟨(h.body x hx).row, (h.body x hx).lo⟩, h.dist⟩

theorem Come.cell {top : Nat} {wr : World} {g n c : Nat} {ts : List Txt} (h : Come top wr (.slice (some ⟨g, 0, none⟩) n c) ts) (i : Nat) (hi : i < ts.length) : wr.cell? ⟨g, i, none⟩ = some ts[i].val := by
  have a1 := h.own.cells (g := g) rfl i ts[i].val (by rw [List.getElem?_map, List.getElem?_eq_getElem hi]; rfl)
  rw [Addr.add_lit, Nat.zero_add] at a1
  exact a1

theorem Come.addr {top : Nat} {wr : World} {ao : Option Addr} {n c : Nat} {ts : List Txt} (h : Come top wr (.slice ao n c) ts) (h0 : 0 < ts.length) : ∃ g, ao = some ⟨g, 0, none⟩ := by
  rcases h.own.2 with ⟨_, h1⟩ | ⟨g, cap, cur, e, _⟩
  · omega
  · injection e with e _ _; exact ⟨g, e⟩

set_option maxRecDepth 100000 in
set_option maxHeartbeats 1000000 in
theorem sameLists_come (pa pb : Nat) (ao bo : Option Addr) (ta tb : List Txt) (na nb ca cb : Nat) (w : World) (ha : Come pa w (.slice ao na ca) ta) (hb : Come pb w (.slice bo nb cb) tb) (hk : ta.map Txt.xs = tb.map Txt.xs) (hna : na = ta.length) (hnb : nb = tb.length) (hl : ta.length ≤ 70368744177664) :
    Calls Tryd.prog 29 #[.slice ao na ca, .slice bo nb cb] w fun e w' => e = .returned (.bool true) ∧ Touch (fun _ => False) w w' := by
  have hll : tb.length = ta.length := by have := congrArg List.length hk; simpa using this.symm
  have e2 : nb = na := by omega
  subst e2
  have HNA := hide hna
  rw [← hna] at hl
  have hli : (nb : Int) ≤ 70368744177664 := by omega
  clear hna hnb
  go_enter Tryd.func29, Tryd.ntmps29
  go_wp2_with fail
  go_loopw [5] (fun i wr => ∃ k : Nat, i = .int .i64 k ∧ k ≤ nb ∧ Touch (fun _ => False) w wr) (fun i _ => nb - (intOf i).toNat)
  case atStart => exact ⟨0, rfl, Nat.zero_le _, Touch.refl _ _⟩
  case round =>
    obtain ⟨k, rfl, hkl, ht⟩ := hrel
    by_cases hlt : k < nb
    · have hka : k < ta.length := by rw [← HNA.out]; exact hlt
      have hkb : k < tb.length := by rw [hll]; exact hka
      obtain ⟨g1, rfl⟩ := ha.addr (by omega)
      obtain ⟨g2, rfl⟩ := hb.addr (by omega)
      have c1 := (ha.turn ht (fun _ h => h.elim)).cell k hka
      have d1 := (hb.turn ht (fun _ h => h.elim)).cell k hkb
      have hkey : ta[k].xs = tb[k].xs := by
        have h1 : (ta.map Txt.xs)[k]? = some ta[k].xs := by rw [List.getElem?_map, List.getElem?_eq_getElem hka]; rfl
        rw [hk, List.getElem?_map, List.getElem?_eq_getElem hkb] at h1
        injection h1 with h1; exact h1.symm
      have ra := ((ha.turn ht (fun _ h => h.elim)).body _ (List.getElem_mem hka)).1
      have rb := ((hb.turn ht (fun _ h => h.elim)).body _ (List.getElem_mem hkb)).1
      have CV1 : ∀ n, (convert 22 9 (.slice ta[k].ao ta[k].xs.length ta[k].cap)).run Tryd.prog (wr.drewN n) = .ok (.string (strOfNums ta[k].xs)) (wr.drewN n) := fun n => conv_seg (Seg.of_row (ra.touch (Touch.drewN (Touch.refl (fun _ => False) wr) n) (fun _ _ h => h))) _
      have CV2 : ∀ n, (convert 22 9 (.slice tb[k].ao tb[k].xs.length tb[k].cap)).run Tryd.prog (wr.drewN n) = .ok (.string (strOfNums tb[k].xs)) (wr.drewN n) := fun n => conv_seg (Seg.of_row (rb.touch (Touch.drewN (Touch.refl (fun _ => False) wr) n) (fun _ _ h => h))) _
      simp only [Txt.val] at c1 d1
      rw [← hkey] at d1 CV2
      have hlt' : (k : Int) < (nb : Int) := by omega
      have HT := hide (fun n => Touch.drewN ht n)
      generalize strOfNums ta[k].xs = st at *
      generalize ta[k].xs.length = n1 at *
      generalize ta[k].ao = a1 at *
      generalize ta[k].cap = p1 at *
      generalize tb[k].ao = a2 at *
      generalize tb[k].cap = p2 at *
      clear ha hb ra rb hk hkey hll ht
      go_wp2_with fail
      go_quiet (fail)
      go_wp2_with fail
      go_roundw
      case rel => exact ⟨k + 1, by go_num, by omega, HT.out _⟩
      case measure => simp [intOf]; omega
    · have e : k = nb := by omega
      subst e
      clear ha hb hk hll
      go_wp2_with fail
      go_ret
      exact ⟨rfl, ht⟩


theorem jsays_in8 {lst : List (Int × List Int)} {p e xl : Nat} {tags : List Int} {bd : List (List Int)} {q er : Nat} (h : JSays lst p e xl tags bd q er) (hok : ∀ x ∈ lst, FrOk x) : ∀ y ∈ bd, In8 y ∧ y.length ≤ 268435456 := by
  cases h with
  | tag => intro y hy; cases hy
  | err => intro y hy; cases hy
  | few => intro y hy; cases hy
  | all =>
    intro y hy
    obtain ⟨x, hx, rfl⟩ := List.mem_map.1 hy
    exact ⟨(hok x hx).in8, (hok x hx).len⟩

theorem jsays_len {lst : List (Int × List Int)} {p e xl : Nat} {tags : List Int} {bd : List (List Int)} {q er : Nat} (h : JSays lst p e xl tags bd q er) : bd.length ≤ lst.length := by
  cases h <;> simp

/-- The blocks of the first k bodies. -/
def SpT (ts : List Txt) (k b : Nat) : Prop := ∃ x ∈ ts.take k, x.val.ownBlock = some b

theorem Come.left {top : Nat} {w0 wr : World} {v : Value} {ts : List Txt} (h : Come top w0 v ts) {k : Nat} (hk : k < ts.length) (ht : Touch (SpT ts k) w0 wr) :
    (∀ g, v.ownBlock = some g → wr.heap[g]? = w0.heap[g]?) ∧ Row wr 5 .u8 ts[k].val ts[k].xs ∧ ∀ w1, Touch (fun b => ts[k].val.ownBlock = some b) wr w1 → Touch (SpT ts (k + 1)) w0 w1 := by
  refine ⟨fun g hg => ?_, (h.body _ (List.getElem_mem hk)).1.touch ht (fun g hg s => ?_), fun w1 h1 => ?_⟩
  · obtain ⟨_, c, hc⟩ := own_block h.own hg
    refine (ht.heap hc (fun s => ?_)).trans hc.symm
    obtain ⟨x, hx, ex⟩ := s
    obtain ⟨c', hc'⟩ := (h.body x (List.mem_of_mem_take hx)).1.block ex
    exact tags hc hc' (by decide) rfl
  · obtain ⟨x, hx, ex⟩ := s
    obtain ⟨j, hj, rfl⟩ := List.mem_iff_getElem.1 hx
    have hj' : j < k := by simp at hj; omega
    rw [List.getElem_take] at ex
    exact List.pairwise_iff_getElem.1 h.dist j k (by omega) hk hj' g ex hg
  · have m1 : ∀ b, SpT ts k b → SpT ts (k + 1) b := fun b ⟨x, hx, ex⟩ => ⟨x, (List.take_subset_take_left ts (Nat.le_succ k)) hx, ex⟩
    refine (ht.mono (fun b _ s => m1 b s)).trans h1 (fun b _ e1 => ?_)
    exact ⟨ts[k], by rw [List.take_succ_eq_append_getElem hk]; exact List.mem_append_right _ (List.mem_singleton.2 rfl), e1⟩

set_option maxRecDepth 100000 in
set_option maxHeartbeats 4000000 in
theorem just_walk (t tg : Txt) (w : World) (hT : Tab w) (ho : t.Ok w) (hc : t.xs.length ≤ t.cap) (hog : tg.Ok w) :
    Calls Tryd.prog 7 #[.slice t.ao t.xs.length t.cap, .slice tg.ao tg.xs.length tg.cap] w fun e w' => e = .returned (.bool true) ∧ Touch (fun _ => False) w w' := by
  have LG := hide (fun W => long_any t.ao t.xs.length t.cap W)
  have LG2 := hide (fun W => long_any tg.ao tg.xs.length tg.cap W)
  have KN := hide (fun (W : World) (hW : Touch (fun _ => False) w W) => known_any W (hT.touch hW (fun h => h)))
  by_cases hl1 : 200000 < t.xs.length
  · have hd : decide ((200000 : Int) < (t.xs.length : Int)) = true := decide_eq_true (by omega)
    rw [hd] at LG
    clear hd
    generalize t.xs.length = xl at *
    generalize tg.xs.length = gl at *
    go_enter Tryd.func7, Tryd.ntmps7
    go_wp2_with fail
    refine (LG.out _).mono ?_
    rintro e w' ⟨rfl, rfl⟩
    go_wp2_with fail
    refine (KN.out _ (Touch.refl _ _)).mono ?_
    rintro e w1 ⟨rfl, t1⟩
    go_wp2_with fail
    go_ret
    exact ⟨rfl, t1⟩
  · have hd : decide ((200000 : Int) < (t.xs.length : Int)) = false := decide_eq_false (by omega)
    rw [hd] at LG
    clear hd
    by_cases hl2 : 200000 < tg.xs.length
    · have hd : decide ((200000 : Int) < (tg.xs.length : Int)) = true := decide_eq_true (by omega)
      rw [hd] at LG2
      clear hd
      generalize t.xs.length = xl at *
      generalize tg.xs.length = gl at *
      go_enter Tryd.func7, Tryd.ntmps7
      go_wp2_with fail
      refine (LG.out _).mono ?_
      rintro e w' ⟨rfl, rfl⟩
      go_wp2_with fail
      refine (LG2.out _).mono ?_
      rintro e w' ⟨rfl, rfl⟩
      go_wp2_with fail
      refine (KN.out _ (Touch.refl _ _)).mono ?_
      rintro e w1 ⟨rfl, t1⟩
      go_wp2_with fail
      go_ret
      exact ⟨rfl, t1⟩
    · have hd : decide ((200000 : Int) < (tg.xs.length : Int)) = false := decide_eq_false (by omega)
      rw [hd] at LG2
      clear hd
      have h8 := hide ho.in8
      have h8g := hide hog.in8
      have LE1 := hide (lent_any t w ho (by omega))
      have LE2 := hide (fun (W : World) (hW : Touch (fun _ => False) w W) => lent_any tg W (hog.touch hW) (by omega))
      have JU := hide (fun (W : World) (hW : Touch (fun _ => False) w W) (g c g2 c2 : Nat) (o1 : (Txt.mk (some ⟨g, 0, none⟩) c t.xs).Ok W) (cp : t.xs.length ≤ c) (o2 : (Txt.mk (some ⟨g2, 0, none⟩) c2 tg.xs).Ok W) => just_any ⟨some ⟨g, 0, none⟩, c, t.xs⟩ ⟨some ⟨g2, 0, none⟩, c2, tg.xs⟩ W (hT.touch hW (fun h => h)) o1 cp (by show t.xs.length ≤ _; omega) o2 (by show tg.xs.length ≤ _; omega))
      have RJ := hide (fun (W : World) (hW : Touch (fun _ => False) w W) => rjust_any t tg W (ho.touch hW) hc (by omega) (hog.touch hW) (by omega))
      have OT := hide (fun (W : World) (hW : Touch (fun _ => False) w W) => (ho.touch hW).seg)
      have OG := hide (fun (W : World) (hW : Touch (fun _ => False) w W) => (hog.touch hW).seg)
      obtain ⟨xl, hxl⟩ : ∃ xl, xl = t.xs.length := ⟨_, rfl⟩
      obtain ⟨gl, hgl⟩ : ∃ gl, gl = tg.xs.length := ⟨_, rfl⟩
      have HXL := hide hxl
      have HGL := hide hgl
      simp only [← hxl, ← hgl] at LG LG2 LE1 LE2 JU RJ hl1 hl2 ⊢
      have hxb : xl ≤ 200000 := by omega
      have hgb : gl ≤ 200000 := by omega
      clear hxl hgl ho hog hc hT
      go_enter Tryd.func7, Tryd.ntmps7
      go_wp2_with fail
      refine (LG.out _).mono ?_
      rintro e w' ⟨rfl, rfl⟩
      go_wp2_with fail
      refine (LG2.out _).mono ?_
      rintro e w' ⟨rfl, rfl⟩
      clear LG LG2
      go_wp2_with fail
      refine LE1.out.mono ?_
      rintro e w1 ⟨g, c, rfl, L1⟩
      have HL1 := hide L1
      clear LE1 L1
      go_wp2_with fail
      refine (LE2.out _ HL1.out.new.touch).mono ?_
      rintro e w2 ⟨g2, c2, rfl, L2⟩
      have T2 := HL1.out.new.touch.trans L2.new.touch (fun _ _ h => h)
      have L12 := HL1.out.keep L2.new.touch
      have HL2 := hide L2
      have HL12 := hide L12
      have HT2 := hide T2
      have o1 := L12.txt h8.out (by rw [← HXL.out]; omega)
      have o2 := L2.txt h8g.out (by rw [← HGL.out]; omega)
      have J2 := hide (JU.out w2 T2 g c g2 c2 o1.1 (by rw [HXL.out]; exact o1.2) o2.1)
      have J3 := hide (fun (W : World) (hW : Touch (fun _ => False) w2 W) => JU.out W (T2.trans hW (fun _ _ h => h)) g c g2 c2 (o1.1.touch hW) (by rw [HXL.out]; exact o1.2) (o2.1.touch hW))
      clear LE2 L2 L12 T2 o1 o2 JU
      go_wp2_with fail
      refine J2.out.mono ?_
      rintro e w3 ⟨v, ts, lst, p, er, q, ee, rfl, B3, H3, S3⟩
      obtain ⟨vo, vc, rfl⟩ := B3.shape
      have J3' := hide (J3.out w3 B3.touch)
      have HB3 := hide B3
      have HH3 := hide H3
      have HS3 := hide S3
      clear B3 H3 S3 J2 J3
      go_wp2_with fail
      refine J3'.out.mono ?_
      rintro e w4 ⟨v', ts', lst', p', er', q', ee', rfl, B4, H4, S4⟩
      obtain ⟨vo', vc', rfl⟩ := B4.shape
      have T24 := HB3.out.touch.trans B4.touch (fun _ _ h => h)
      have RJ4 := hide (RJ.out w4 (HT2.out.trans T24 (fun _ _ h => h)))
      have HB4 := hide B4
      have HH4 := hide H4
      have HS4 := hide S4
      have HT24 := hide T24
      clear B4 H4 S4 J3' RJ T24
      go_wp2_with fail
      refine RJ4.out.mono ?_
      rintro e w5 ⟨v5, ts5, lst5, p5, er5, q5, ee5, rfl, B5, H5, S5⟩
      obtain ⟨vo5, vc5, rfl⟩ := B5.shape
      obtain ⟨a1, a2, a3⟩ := heads_one _ _ _ _ _ _ _ H5 HH3.out
      subst a1 a2 a3
      obtain ⟨b1, b2, b3⟩ := heads_one _ _ _ _ _ _ _ HH4.out H5
      have S4 := HS4.out
      rw [b1, b2, b3] at S4
      obtain ⟨k1, k2, k3⟩ := jsays_one HS3.out S5
      obtain ⟨m1, m2, m3⟩ := jsays_one S4 S5
      have in8s := jsays_in8 HS3.out H5.ok
      subst k2 k3
      have T45 := B5.touch
      have C3 := (HB3.out.keep (HB4.out.touch.trans T45 (fun _ _ h => h))).come
      have C4 := (HB4.out.keep T45).come
      have C5 := B5.come
      have hn : ts.length ≤ 200000 := by
        have h1 := jsays_len HS3.out
        have h2 := rowF_len lst5
        have h3 : (rowF lst5).length ≤ t.xs.length := by rw [H5.row, List.length_take]; omega
        rw [List.length_map] at h1
        have := HXL.out; omega
      have hn5 : ts5.length = ts.length := by have := congrArg List.length k1; simpa using this.symm
      have SM := hide (sameLists_come _ _ vo vo5 ts ts5 _ _ vc vc5 w5 C3 C5 k1 rfl rfl (by omega))
      have hspt : ∀ k b, SpT ts k b → w2.heap.size ≤ b ∧ b < w3.heap.size := fun k b ⟨x, hx, ex⟩ => ⟨(HB3.out.body x (List.mem_of_mem_take hx)).lo b ex, (HB3.out.body x (List.mem_of_mem_take hx)).row.lt ex⟩
      have HSPT := hide hspt
      have HC3 := hide C3
      have HC4 := hide C4
      have HC5 := hide C5
      have HM1 := hide (m1 : ts'.map Txt.xs = ts5.map Txt.xs)
      have hn4 : ts'.length = ts.length := by have := congrArg List.length m1; rw [List.length_map, List.length_map] at this; omega
      have HI8 : Hid (∀ x ∈ ts, In8 x.xs ∧ x.xs.length ≤ 268435456) := hide (fun x hx => in8s _ (List.mem_map.2 ⟨x, hx, rfl⟩))
      have HT25 := hide (HT24.out.trans T45 (fun _ _ h => h))
      have s34 := HB4.out.touch.size
      obtain ⟨n, en⟩ : ∃ n, n = ts.length := ⟨_, rfl⟩
      have HN := hide en
      rw [hn5, ← en] at SM
      rw [← en] at hn
      have HN4 := hide (hn4.trans en.symm)
      have HN5 := hide (hn5.trans en.symm)
      rw [hn5, hn4, ← en]
      have hni : (n : Int) ≤ 200000 := by omega
      clear B5 H5 S5 S4 k1 m1 m2 m3 b1 b2 b3 in8s C3 C4 C5 T45 hn5 hn4 hspt HS3 HS4 HH3 HH4 HB4 HT24 RJ4 en
      go_wp2_with fail
      refine SM.out.mono ?_
      rintro e w6 ⟨rfl, t6⟩
      have C3 := HC3.out.turn t6 (fun _ h => h.elim)
      have C4 := HC4.out.turn t6 (fun _ h => h.elim)
      have C5 := HC5.out.turn t6 (fun _ h => h.elim)
      have T26 := HT25.out.trans t6 (fun _ _ h => h)
      have HC3 := hide C3
      have HC4 := hide C4
      have HC5 := hide C5
      have HT26 := hide T26
      clear C3 C4 C5 T26 t6 SM HT25
      go_wp2_with fail
      go_loopw [16] (fun i wr => ∃ j : Nat, i = .int .i64 j ∧ j ≤ n ∧ Touch (SpT ts j) w6 wr) (fun i _ => n - (intOf i).toNat)
      case atStart => exact ⟨0, rfl, Nat.zero_le _, Touch.refl _ _⟩
      case round =>
        obtain ⟨j, rfl, hj, htj⟩ := hrel
        by_cases hlt : j < n
        · have hjl : j < ts.length := by rw [← HN.out]; exact hlt
          obtain ⟨gv, rfl⟩ := HC3.out.addr (by omega)
          obtain ⟨hg, hrow, hnext⟩ := HC3.out.left hjl htj
          have cc : wr.cell? ⟨gv, j, none⟩ = some ts[j].val := (World.cell?_of_block (w := w6) (w' := wr) (a := ⟨gv, j, none⟩) (hg gv rfl)).trans (HC3.out.cell j hjl)
          obtain ⟨i8, il⟩ := HI8.out _ (List.getElem_mem hjl)
          have SP := hide (spoilt_any ts[j].ao ts[j].xs.length ts[j].xs.length ts[j].cap ts[j].xs wr hrow i8 (Nat.le_refl _) (by omega))
          have HNX := hide hnext
          have hlti : (j : Int) < (n : Int) := by omega
          simp only [Txt.val] at cc HNX
          generalize ts[j].xs.length = xn at *
          generalize ts[j].ao = xa at *
          generalize ts[j].cap = xc at *
          clear hg hrow hnext i8 il htj
          go_wp2_with fail
          refine SP.out.mono ?_
          rintro e w8 ⟨⟨v8, rfl⟩, t8⟩
          have HT8 := hide (HNX.out w8 t8)
          clear t8 HNX SP cc
          go_wp2_with fail
          go_roundw
          case rel => exact ⟨j + 1, by go_num, by omega, HT8.out⟩
          case measure => simp [intOf]; omega
        · have e : j = n := by omega
          subst e
          have D4 := HC4.out.turn htj (fun b s => .inl (HSPT.out j b s).2)
          have D5 := HC5.out.turn htj (fun b s => .inl (by have := (HSPT.out j b s).2; omega))
          have T2r : Touch (fun _ => False) w2 wr := HT26.out.trans htj (fun b hb s => by have := (HSPT.out j b s).1; omega)
          have Twr := HT2.out.trans T2r (fun _ _ h => h)
          have SM2 := hide (sameLists_come _ _ vo' vo5 ts' ts5 _ _ vc' vc5 wr D4 D5 HM1.out rfl rfl (by rw [HN4.out]; omega))
          rw [HN4.out, HN5.out] at SM2
          have KE1 := hide (fun (W : World) (tW : Touch (fun _ => False) wr W) => kept_any w g c t.ao t.xs t.cap W (HL12.out.keep (T2r.trans tW (fun _ _ h => h))) (OT.out W (Twr.trans tW (fun _ _ h => h))) (by rw [← HXL.out]; omega))
          have KE2 := hide (fun (W : World) (tW : Touch (fun _ => False) wr W) => kept_any w1 g2 c2 tg.ao tg.xs tg.cap W (HL2.out.keep (T2r.trans tW (fun _ _ h => h))) (OG.out W (Twr.trans tW (fun _ _ h => h))) (by rw [← HGL.out]; omega))
          rw [← HXL.out] at KE1
          rw [← HGL.out] at KE2
          have HTW := hide Twr
          clear D4 D5 T2r Twr htj
          go_wp2_with fail
          refine SM2.out.mono ?_
          rintro e w9 ⟨rfl, t9⟩
          go_wp2_with fail
          refine (KE1.out _ t9).mono ?_
          rintro e w' ⟨rfl, rfl⟩
          go_wp2_with fail
          refine (KE2.out _ t9).mono ?_
          rintro e w' ⟨rfl, rfl⟩
          have T9 := HTW.out.trans t9 (fun _ _ h => h)
          go_wp2_with fail
          refine (KN.out _ T9).mono ?_
          rintro e w10 ⟨rfl, t10⟩
          go_wp2_with fail
          go_ret
          exact ⟨rfl, T9.trans t10 (fun _ _ h => h)⟩

end Go.Proofs.YtfeifobljgmkkaaDoor
