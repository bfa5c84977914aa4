/- The walk of GroupsMoves. -/
import Derived.Test.YtmhobdcnohhaaaaMovP
namespace Go.Proofs.Ytmhobdcnohhaaaa
open Go.RowKit

set_option maxRecDepth 100000 in
set_option maxHeartbeats 4000000 in
theorem moves_yes (p q g : Nat) (hp : May p g) (hq : May q g) (w : World) : Calls Try.prog 5 #[.int .i64 p, .int .i64 q, .int .i64 g] w fun e w' => e = .returned (.bool true) ∧ Touch (fun _ => False) w w' := by
  obtain ⟨i0, hi, hz0, hz1, hz2⟩ := info_parts2 infoMv
  have K1 := hide (moves_any p q g hp hq)
  have K3 := hide (moves_any q p g hq hp)
  have K4 := hide (rmoves_any p q g hp hq)
  have HLB := hide (Nat.le_trans (scan_len (wk p g) (wk q g) g) hp.g2)
  rw [scan_swap (wk p g) (wk q g)] at K3
  generalize scan (wk p g) (wk q g) g = l at *
  have hml : (l.map Mv.swap).length = l.length := List.length_map _
  rw [hml] at K3
  obtain ⟨n, hn⟩ : ∃ n, l.length = n := ⟨_, rfl⟩
  have HN := hide hn
  go_enter Try.func5, Try.ntmps5
  go_wp2_with fail
  refine (K1.out _).mono ?_
  rintro e w1 ⟨ao1, n1, c1, rfl, own1, t1⟩
  have hn1 := own_len own1
  subst hn1
  have HO1 := hide own1
  have HT1 := hide t1
  clear own1 t1
  go_wp2_with fail
  refine (K1.out _).mono ?_
  rintro e w2 ⟨ao2, n2, c2, rfl, own2, t2⟩
  have hn2 := own_len own2
  subst hn2
  have HO2 := hide own2
  have HT2 := hide t2
  clear own2 t2
  go_wp2_with fail
  refine (K3.out _).mono ?_
  rintro e w3 ⟨ao3, n3, c3, rfl, own3, t3⟩
  have hn3 := own_len own3
  subst hn3
  have HO3 := hide own3
  have HT3 := hide t3
  clear own3 t3
  go_wp2_with fail
  refine (K4.out _).mono ?_
  rintro e w4 ⟨ao4, n4, c4, rfl, own4, t4⟩
  have hn4 := own_len own4
  subst hn4
  have SA := SegM.of_own (own_touch HO1.out ((HT2.out.trans HT3.out (fun _ _ h => h)).trans t4 (fun _ _ h => h)) (fun _ _ h => h))
  have SB := SegM.of_own (own_touch HO2.out (HT3.out.trans t4 (fun _ _ h => h)) (fun _ _ h => h))
  have h3 := own_touch HO3.out t4 (fun _ _ h => h)
  have SC := SegM.of_own (l := l.map Mv.swap) (by rw [hml]; exact h3)
  have SD := SegM.of_own own4
  have HT4 := hide (((HT1.out.trans HT2.out (fun _ _ h => h)).trans HT3.out (fun _ _ h => h)).trans t4 (fun _ _ h => h))
  have OA := hide (own_touch HO1.out ((HT2.out.trans HT3.out (fun _ _ h => h)).trans t4 (fun _ _ h => h)) (fun _ _ h => h))
  -- the blocks of the other two lie beyond that of the first
  have HBB : Hid (∀ g' b off, (Value.slice ao1 l.length c1).ownBlock = some g' → ao2 = some ⟨b, off, none⟩ → g' ≠ b) := hide (fun g' b off hg' hb => by
    obtain ⟨_, cur, hc⟩ := own_block HO1.out hg'
    have h1 := lt_of_heap hc
    subst hb
    have h2 := (own_block HO2.out (g := b) (by
      rcases HO2.out.2 with ⟨h1, _⟩ | ⟨b', cap, cur, h1, _⟩
      · cases h1
      · injection h1 with h1 _ _; injection h1 with h1; injection h1 with h1 h2 _; subst h1 h2; rfl)).1
    omega)
  have HBD : Hid (∀ g' b off, (Value.slice ao1 l.length c1).ownBlock = some g' → ao4 = some ⟨b, off, none⟩ → g' ≠ b) := hide (fun g' b off hg' hb => by
    obtain ⟨_, cur, hc⟩ := own_block HO1.out hg'
    have h1 := lt_of_heap hc
    have h3 := HT2.out.size
    have h4 := HT3.out.size
    subst hb
    have h2 := (own_block own4 (g := b) (by
      rcases own4.2 with ⟨h1, _⟩ | ⟨b', cap, cur, h1, _⟩
      · cases h1
      · injection h1 with h1 _ _; injection h1 with h1; injection h1 with h1 h2 _; subst h1 h2; rfl)).1
    omega)
  have HSM := hide (sameMoves_any ao1 ao4 c1 c4 l n hn (by have := HLB.out; omega) w4 SA SD)
  have HSB := hide SB
  have HSC := hide SC
  have HSD := hide SD
  have HLO : Hid (∀ g', (Value.slice ao1 l.length c1).ownBlock = some g' → w.heap.size ≤ g') := hide (fun g' hg' => (own_block HO1.out hg').1)
  clear SA SB SC SD h3 own4 t4 HO1 HO2 HO3 HT1 HT2 HT3 K1 K3 K4 hml
  rw [hn] at HBB HBD HLO OA HLB ⊢
  clear hn
  go_wp2_with (go_at_call 18; refine (num_any _ _).mono ?_; rintro e w' ⟨rfl, hq⟩; obtain rfl := hq.symm; clear hq)
  refine HSM.out.mono ?_
  rintro e w5 ⟨rfl, k5, rfl⟩
  have t5 := Touch.drewN (Touch.refl (fun _ => False) w4) k5
  have OA5 := hide (own_touch OA.out t5 (fun _ _ h => h))
  have SB5 := hide (HSB.out.touch t5 (fun _ _ _ _ h => h))
  have SC5 := hide (HSC.out.touch t5 (fun _ _ _ _ h => h))
  have SD5 := hide (HSD.out.touch t5 (fun _ _ _ _ h => h))
  have HT5 := hide (HT4.out.trans t5 (fun _ _ h => h))
  clear t5 OA HSB HSC HSD HT4 HSM
  generalize w4.drewN k5 = w5 at *
  go_wp2_with fail
  go_loopw [15] (fun i wr => ∃ k : Nat, i = .int .i64 (k : Int) ∧ k ≤ n ∧ ∃ j, wr = w5.drewN j) (fun i _ => n - (intOf i).toNat)
  case atStart => exact ⟨0, rfl, Nat.zero_le _, 0, rfl⟩
  case round =>
    obtain ⟨k, rfl, hk, j, rfl⟩ := hrel
    by_cases hlt : k < n
    · have hlt' : (k : Int) < (n : Int) := by omega
      have hkl : k < l.length := by have := HN.out; omega
      obtain ⟨b3, o3, rfl⟩ := SC5.out.addr (by rw [List.length_map]; omega)
      obtain ⟨b4, o4, rfl⟩ := SD5.out.addr (by omega)
      obtain ⟨p0, p1, p2, p3⟩ := SC5.out.cell b3 o3 rfl k (by rw [List.length_map]; exact hkl)
      obtain ⟨q0, q1, q2, q3⟩ := SD5.out.cell b4 o4 rfl k hkl
      rw [List.getElem_map] at p0 p1 p2 p3
      simp only [Mv.swap] at p0 p1 p2 p3
      have SW := hide (succ_wrap (k := k) (by have := HLB.out; omega))
      generalize l[k] = m at *
      clear hkl
      go_wp2_with fail
      go_quiet (fail)
      go_wp2_with fail
      go_roundw
      case rel => exact ⟨k + 1, by rw [SW.out], hlt, _, rfl⟩
      case measure => rw [SW.out]; simp [intOf]; omega
    · have e : k = n := by omega
      subst e
      have t6 := Touch.drewN (Touch.refl (fun _ => False) w5) j
      have OA6 := hide (own_touch OA5.out t6 (fun _ _ h => h))
      have SB6 := hide (SB5.out.touch t6 (fun _ _ _ _ h => h))
      have SD6 := hide (SD5.out.touch t6 (fun _ _ _ _ h => h))
      have HT6 := hide (HT5.out.trans t6 (fun _ _ h => h))
      clear t6 OA5 SB5 SC5 SD5 HT5 hk hlt
      generalize w5.drewN j = w6 at *
      have T66 := hide (Touch.refl (fun g' => (Value.slice ao1 k c1).ownBlock = some g') w6)
      go_wp2_with fail
      go_loopw [16] (fun i wr => ∃ j : Nat, i = .int .i64 (j : Int) ∧ j ≤ k ∧ Touch (fun g' => (Value.slice ao1 k c1).ownBlock = some g') w6 wr ∧ ∃ xs, wr.ownsRow w.heap.size 54 4 (.slice ao1 k c1) k xs) (fun i _ => k - (intOf i).toNat)
      case atStart => exact ⟨0, rfl, Nat.zero_le _, T66.out, _, OA6.out⟩
      case round =>
        obtain ⟨j, rfl, hj, tj, xs, oj⟩ := hrel
        by_cases hlt : j < k
        · have hlt' : (j : Int) < (k : Int) := by omega
          obtain ⟨b, rfl⟩ : ∃ b, ao1 = some ⟨b, 0, none⟩ := by
            rcases oj.2 with ⟨h1, h2⟩ | ⟨b, cap, cur, h1, _⟩
            · omega
            · injection h1 with h1 _ _; exact ⟨b, h1⟩
          obtain ⟨_, cur, hcur⟩ := own_block oj rfl
          have hxl := oj.1
          have hcs := oj.cells (g := b) rfl
          have cc : ∀ d, d < 4 → ∃ u, wr.cell? ⟨b, j * 4 + d, none⟩ = some u := fun d hd => by
            have hx : j * 4 + d < xs.length := by omega
            have := hcs (j * 4 + d) xs[j * 4 + d] (List.getElem?_eq_getElem hx)
            rw [Addr.add_lit, Nat.zero_add] at this
            exact ⟨_, this⟩
          obtain ⟨u0, q0⟩ := cc 0 (by omega)
          obtain ⟨u1, q1⟩ := cc 1 (by omega)
          obtain ⟨u2, q2⟩ := cc 2 (by omega)
          obtain ⟨u3, q3⟩ := cc 3 (by omega)
          rw [Nat.add_zero] at q0
          have fz : ∀ d, wr.frozen? ⟨b, d, none⟩ = false := fun d => by simp [World.frozen?, hcur]
          have z0 := fz (j * 4)
          have z1 := fz (j * 4 + 1)
          have z2 := fz (j * 4 + 2)
          have z3 := fz (j * 4 + 3)
          have SW := hide (succ_wrap (k := j) (by have := HLB.out; omega))
          have HTJ := hide (tj.trans (touch_over wr b (j * 4) (.int .i64 0) (.int .i64 0) (.int .i64 0) (.int .i64 0)) (fun g' _ e => by subst e; rfl))
          have HOJ := hide (own_over (j := j * 4) oj (.int .i64 0) (.int .i64 0) (.int .i64 0) (.int .i64 0))
          clear hcs cc fz hcur hxl oj tj
          go_wp2_with fail
          go_roundw
          case rel => exact ⟨j + 1, by rw [SW.out], hlt, HTJ.out, HOJ.out⟩
          case measure => rw [SW.out]; simp [intOf]; omega
        · have e : j = k := by omega
          subst e
          have HO7 := hide oj
          have HT7 := hide tj
          have HF7 : Hid (∀ g', (Value.slice ao1 (j + 0) c1).ownBlock = some g' → g' < w6.heap.size → (Value.slice ao1 j c1).ownBlock = some g') := hide (fun g' hg' _ => hg')
          clear oj tj OA6 T66 hj hlt
          go_wp2_with fail
          go_loopw [7, 17] (fun v i wr => ∃ (r : Nat) (ao : Option Addr) (c : Nat) (xs : List Value), i = .int .i64 (r : Int) ∧ r ≤ 20 ∧ v = .slice ao (j + r) c ∧ wr.ownsRow w.heap.size 54 4 (.slice ao (j + r) c) (j + r) xs ∧ Touch (fun g' => (Value.slice ao1 j c1).ownBlock = some g') w6 wr ∧ ∀ g', (Value.slice ao (j + r) c).ownBlock = some g' → g' < w6.heap.size → (Value.slice ao1 j c1).ownBlock = some g') (fun _ i _ => 20 - (intOf i).toNat)
          case atStart => exact ⟨0, ao1, c1, xs, rfl, by omega, rfl, HO7.out, HT7.out, HF7.out⟩
          case round =>
            obtain ⟨r, ao, c, ys, rfl, hr, rfl, own8, t8, f8⟩ := hrel
            by_cases hlt : r < 20
            · have hlt' : (r : Int) < 20 := by omega
              have tz := (Touch.refl (fun _ => False) wr).alloc (.cells #[.int .i64 0, .int .i64 0, .int .i64 0, .int .i64 0] 54)
              have OZ := hide (own_touch own8 tz (fun _ _ h => h))
              have TZ := hide (t8.trans tz (fun _ _ h => h.elim))
              have HSZ := hide (Nat.le_trans HT6.out.size (Nat.le_trans t8.size tz.size))
              have HF8 := hide f8
              have HS6 := hide t8.size
              have HB1 : Hid (j + r + 1 ≤ maxLen) := hide (by have := HLB.out; unfold maxLen; omega)
              have HB2 : Hid ((j + r + 1) * 32 ≤ 140737488355328) := hide (by have := HLB.out; omega)
              have H1C : Hid (∀ u ∈ [Value.int .i64 0, .int .i64 0, .int .i64 0, .int .i64 0], u.oneCell' = true) := hide (fun u hu => by simp at hu; subst hu; rfl)
              clear tz own8 t8 f8
              generalize hm : j + r = m at *
              have HM := hide hm
              clear hm
              go_wp2_with (at_builtin; refine wpList_append_sep _ rfl (.tmp 139) (.tmp 141) 47 rfl w.heap.size 54 i0 (.agg #[.int .i64 0, .int .i64 0, .int .i64 0, .int .i64 0]) 4 32 Try.underlying47 hi hz0 hz1 hz2 rfl (by decide) _ m ys rfl OZ.out ⟨wr.heap.size, 0, none⟩ 1 1 [.int .i64 0, .int .i64 0, .int .i64 0, .int .i64 0] rfl rfl (new_cells wr _ _) H1C.out HB1.out HB2.out HSZ.out (by omega) ?nx)
              case nx =>
                intro ao9 c9 w9 own9 t9 f9
                have HO9 : Hid (w9.ownsRow w.heap.size 54 4 (.slice ao9 (j + (r + 1)) c9) (j + (r + 1)) (ys ++ [.int .i64 0, .int .i64 0, .int .i64 0, .int .i64 0])) := hide (by rw [show j + (r + 1) = m + 1 by have := HM.out; omega]; exact own9)
                have HT9 := hide (TZ.out.trans t9 (fun g' hg' hs => HF8.out g' hs hg'))
                have HM2 : Hid (m + 1 = j + (r + 1)) := hide (by have := HM.out; omega)
                have HF9 : Hid (∀ g', (Value.slice ao9 (j + (r + 1)) c9).ownBlock = some g' → g' < w6.heap.size → (Value.slice ao1 j c1).ownBlock = some g') := hide (fun g' hg' hlt' => by
                  rw [← HM2.out] at hg'
                  rcases f9 g' hg' with h | h
                  · exact HF8.out g' h hlt'
                  · have h6 := HS6.out
                    omega)
                clear own9 t9 f9 OZ TZ
                go_wp2_with fail
                go_roundw
                case rel => exact ⟨r + 1, ao9, c9, _, by simp, hlt, by rw [HM2.out], HO9.out, HT9.out, HF9.out⟩
                case measure => simp [intOf]; omega
            · have e : r = 20 := by omega
              subst e
              have SBZ := SB6.out.touch t8 (fun b off hb _ hs => HBB.out b b off hs hb rfl)
              have SDZ := SD6.out.touch t8 (fun b off hb _ hs => HBD.out b b off hs hb rfl)
              have KS := hide (sameMoves_any ao2 ao4 c2 c4 l j HN.out HLB.out wr SBZ SDZ)
              have HTE := hide (HT6.out.trans t8 (fun g' hg' hs => by have := HLO.out g' hs; omega))
              have hl20 : (20 : Int) ≤ ((j + 20 : Nat) : Int) := by omega
              clear SBZ SDZ own8 t8 f8
              go_wp2_with fail
              refine KS.out.mono ?_
              rintro e w10 ⟨rfl, k10, rfl⟩
              go_wp2_with fail
              refine (known_any _).mono ?_
              rintro e w11 ⟨rfl, t11⟩
              go_wp2_with fail
              go_ret
              exact ⟨rfl, (HTE.out.drewN k10).trans t11 (fun _ _ h => h)⟩

set_option maxRecDepth 100000 in
set_option maxHeartbeats 4000000 in
theorem moves_noes (p q g : Int) (h : ¬ (mayW p g = true ∧ mayW q g = true)) (w : World) : Calls Try.prog 5 #[.int .i64 p, .int .i64 q, .int .i64 g] w fun e w' => e = .returned (.bool true) ∧ Touch (fun _ => False) w w' := by
  obtain ⟨i0, hi, hz0, hz1, hz2⟩ := info_parts2 infoMv
  have K1 := hide (moves_no p q g h)
  have K3 := hide (moves_no q p g (fun hh => h ⟨hh.2, hh.1⟩))
  have K4 := hide (rmoves_no p q g h)
  have KS : Hid (∀ W, Calls Try.prog 24 #[.slice none 0 0, .slice none 0 0] W fun e w' => e = .returned (.bool true) ∧ ∃ k, w' = W.drewN k) := hide (fun W => sameMoves_any none none 0 0 [] 0 rfl (by omega) W ⟨fun h => absurd h (by simp), fun _ _ e => (nomatch e)⟩ ⟨fun h => absurd h (by simp), fun _ _ e => (nomatch e)⟩)
  clear h
  go_enter Try.func5, Try.ntmps5
  go_wp2_with fail
  refine (K1.out _).mono ?_
  rintro e w1 ⟨rfl, t1⟩
  go_wp2_with fail
  refine (K1.out _).mono ?_
  rintro e w2 ⟨rfl, t2⟩
  go_wp2_with fail
  refine (K3.out _).mono ?_
  rintro e w3 ⟨rfl, t3⟩
  go_wp2_with fail
  refine (K4.out _).mono ?_
  rintro e w4 ⟨rfl, hq4⟩
  obtain rfl := hq4.symm
  have HT4 := hide ((t1.trans t2 (fun _ _ h => h)).trans t3 (fun _ _ h => h))
  clear t1 t2 t3 hq4
  go_wp2_with (go_at_call 18; refine (num_any _ _).mono ?_; rintro e w' ⟨rfl, hq⟩; obtain rfl := hq.symm; clear hq)
  refine (KS.out _).mono ?_
  rintro e w5 ⟨rfl, k5, rfl⟩
  have HT6 := hide (HT4.out.drewN k5)
  clear HT4
  generalize w3.drewN k5 = w6 at *
  have HS66 := hide (Touch.refl (fun _ => False) w6)
  go_wp2_with fail
  refine wp_loop_once ?_
  go_wp2_with fail
  refine wp_loop_once ?_
  go_wp2_with fail
  go_loopw [7, 17] (fun v i wr => ∃ (r : Nat) (ao : Option Addr) (c : Nat) (xs : List Value), i = .int .i64 (r : Int) ∧ r ≤ 20 ∧ v = .slice ao r c ∧ wr.ownsRow w6.heap.size 54 4 (.slice ao r c) r xs ∧ Touch (fun _ => False) w6 wr) (fun _ i _ => 20 - (intOf i).toNat)
  case atStart => exact ⟨0, none, 0, [], rfl, by omega, rfl, World.ownsRow_nil _ _ _ _, HS66.out⟩
  case round =>
    obtain ⟨r, ao, c, ys, rfl, hr, rfl, own8, t8⟩ := hrel
    by_cases hlt : r < 20
    · have hlt' : (r : Int) < 20 := by omega
      have tz := (Touch.refl (fun _ => False) wr).alloc (.cells #[.int .i64 0, .int .i64 0, .int .i64 0, .int .i64 0] 54)
      have OZ := hide (own_touch own8 tz (fun _ _ h => h))
      have TZ := hide (t8.trans tz (fun _ _ h => h.elim))
      have HSZ := hide (Nat.le_trans t8.size tz.size)
      have HOB := hide (fun g' (hg' : (Value.slice ao r c).ownBlock = some g') => (own_block own8 hg').1)
      have HB1 : Hid (r + 1 ≤ maxLen) := hide (by unfold maxLen; omega)
      have HB2 : Hid ((r + 1) * 32 ≤ 140737488355328) := hide (by omega)
      have H1C : Hid (∀ u ∈ [Value.int .i64 0, .int .i64 0, .int .i64 0, .int .i64 0], u.oneCell' = true) := hide (fun u hu => by simp at hu; subst hu; rfl)
      clear tz own8 t8
      go_wp2_with (at_builtin; refine wpList_append_sep _ rfl (.tmp 139) (.tmp 141) 47 rfl w6.heap.size 54 i0 (.agg #[.int .i64 0, .int .i64 0, .int .i64 0, .int .i64 0]) 4 32 Try.underlying47 hi hz0 hz1 hz2 rfl (by decide) _ r ys rfl OZ.out ⟨wr.heap.size, 0, none⟩ 1 1 [.int .i64 0, .int .i64 0, .int .i64 0, .int .i64 0] rfl rfl (new_cells wr _ _) H1C.out HB1.out HB2.out HSZ.out (by omega) ?nx)
      case nx =>
        intro ao9 c9 w9 own9 t9 f9
        have HO9 := hide own9
        have HT9 := hide (TZ.out.trans t9 (fun g' hg' hs => by have := HOB.out g' hs; omega))
        clear own9 t9 f9 OZ TZ
        go_wp2_with fail
        go_roundw
        case rel => exact ⟨r + 1, ao9, c9, _, by simp, hlt, rfl, HO9.out, HT9.out⟩
        case measure => simp [intOf]; omega
    · have e : r = 20 := by omega
      subst e
      have HTE := hide (HT6.out.trans t8 (fun _ _ h => h))
      clear own8 t8
      go_wp2_with fail
      refine (KS.out _).mono ?_
      rintro e w10 ⟨rfl, k10, rfl⟩
      go_wp2_with fail
      refine (known_any _).mono ?_
      rintro e w11 ⟨rfl, t11⟩
      go_wp2_with fail
      go_ret
      exact ⟨rfl, (HTE.out.drewN k10).trans t11 (fun _ _ h => h)⟩

theorem moves_walk (p q g : Int) (w : World) : Calls Try.prog 5 #[.int .i64 p, .int .i64 q, .int .i64 g] w fun e w' => e = .returned (.bool true) ∧ Touch (fun _ => False) w w' := by
  by_cases h : mayW p g = true ∧ mayW q g = true
  · obtain ⟨P, G, rfl, rfl, m1⟩ := may_of h.1
    obtain ⟨Q, G', rfl, hg, m2⟩ := may_of h.2
    obtain rfl : G = G' := by omega
    exact moves_yes P Q G m1 m2 w
  · exact moves_noes p q g h w

end Go.Proofs.Ytmhobdcnohhaaaa
