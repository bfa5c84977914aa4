/- For all puts to two writers (of together at most 1048576 values and letters) the Go law WireWrites returns true and leaves its arguments and all memory that was there as it was. -/
import Derived.Test.YthhajlbnnffgnaaWrs
import Derived.Deep.CutRange
import Derived.Deep.RegionHeld3
namespace Go.Proofs.Ythhajlbnnffgnaa
open Go.ChangeShapes Go.WideShapes Go.ChangeAt Go.RowKit

def twoP (a b : Nat) : Nat → Nat := fun k => if k = 0 then a else b

/-- As the two writers are made. -/
theorem st_start (w w1 : World) (S : Nat → Value) (hw1 : Wr w1 w.heap.size (.slice none 0 0) []) (hl1 : w.heap.size < w1.heap.size) :
    St ((((w1.alloc (.cells #[.slice none 0 0] 27)).alloc (.cells #[.pointer (some ⟨w.heap.size, 0, none⟩), .pointer (some ⟨w1.heap.size, 0, none⟩)] 28)).alloc (.cells #[S 0, S 1] 29)).alloc (.cells #[.slice none 0 0, .slice none 0 0] 30))
      w.heap.size (w1.heap.size + 1) (w1.heap.size + 1 + 1) (w1.heap.size + 1 + 1 + 1) (twoP w.heap.size w1.heap.size) S (fun _ => .slice none 0 0) (fun _ => .slice none 0 0) (fun _ => []) where
  ha := by
    have e : (w1.alloc (.cells #[.slice none 0 0] 27)).heap.size = w1.heap.size + 1 := by simp
    have h := heap_alloc_new (w1.alloc (.cells #[.slice none 0 0] 27)) (.cells #[.pointer (some ⟨w.heap.size, 0, none⟩), .pointer (some ⟨w1.heap.size, 0, none⟩)] 28)
    rw [e] at h
    rw [Below.heap_alloc _ _ _ (by simp), Below.heap_alloc _ _ _ (by simp)]
    exact h
  hl := by
    have e : ((w1.alloc (.cells #[.slice none 0 0] 27)).alloc (.cells #[.pointer (some ⟨w.heap.size, 0, none⟩), .pointer (some ⟨w1.heap.size, 0, none⟩)] 28)).heap.size = w1.heap.size + 1 + 1 := by simp
    have h := heap_alloc_new ((w1.alloc (.cells #[.slice none 0 0] 27)).alloc (.cells #[.pointer (some ⟨w.heap.size, 0, none⟩), .pointer (some ⟨w1.heap.size, 0, none⟩)] 28)) (.cells #[S 0, S 1] 29)
    rw [e] at h
    rw [Below.heap_alloc _ _ _ (by simp)]
    exact h
  hu := by
    have e : (((w1.alloc (.cells #[.slice none 0 0] 27)).alloc (.cells #[.pointer (some ⟨w.heap.size, 0, none⟩), .pointer (some ⟨w1.heap.size, 0, none⟩)] 28)).alloc (.cells #[S 0, S 1] 29)).heap.size = w1.heap.size + 1 + 1 + 1 := by simp
    have h := heap_alloc_new (((w1.alloc (.cells #[.slice none 0 0] 27)).alloc (.cells #[.pointer (some ⟨w.heap.size, 0, none⟩), .pointer (some ⟨w1.heap.size, 0, none⟩)] 28)).alloc (.cells #[S 0, S 1] 29)) (.cells #[.slice none 0 0, .slice none 0 0] 30)
    rw [e] at h
    exact h
  wr := two_cases ((((hw1.alloc _).alloc _).alloc _).alloc _) (by
    refine Wr.alloc (Wr.alloc (Wr.alloc (pb := w1.heap.size) ⟨?_, Row.nil _ _ _⟩ _) _) _
    exact heap_alloc_new w1 _)
  row _ _ := Row.nil _ _ _
  pp i j hi hj hne := by
    unfold twoP
    have : i = 0 ∧ j = 1 ∨ i = 1 ∧ j = 0 := by omega
    rcases this with ⟨rfl, rfl⟩ | ⟨rfl, rfl⟩ <;> simp <;> omega
  vv _ _ _ _ _ _ h := nomatch h
  xx _ _ _ _ _ _ h := nomatch h
  vx _ _ _ _ _ h := nomatch h
  low := ⟨by omega, by omega, by omega⟩
  nP := two_cases (by simp [twoP]) (by simp [twoP]; omega)
  nV _ _ _ h := nomatch h
  nX _ _ _ h := nomatch h

set_option maxRecDepth 100000 in
set_option maxHeartbeats 8000000 in
theorem writes_walk (so : Nat → Option Addr) (len cap : Nat → Nat) (D : Nat → Nat → PutD) (w : World) (hsp : ∀ k, k < 2 → SegP w (so k) (len k) (D k)) (hl : ∀ k, k < 2 → len k ≤ 1048576) :
    Calls Try.prog 3 #[.slice (so 0) (len 0) (cap 0), .slice (so 1) (len 1) (cap 1)] w fun e w' => e = .returned (.bool true) ∧ Below w.heap.size w w' := by
  go_enter Try.func3, Try.ntmps3
  go_wp2_with fail
  refine (newWriter_any w).mono ?_
  rintro r w1 ⟨rfl, hw1, ht1, hl1⟩
  go_wp2_with fail
  have hst := st_start w w1 (fun k => .slice (so k) (len k) (cap k)) hw1 hl1
  have htt := (((ht1.alloc (.cells #[.slice none 0 0] 27)).alloc (.cells #[.pointer (some ⟨w.heap.size, 0, none⟩), .pointer (some ⟨w1.heap.size, 0, none⟩)] 28)).alloc (.cells #[.slice (so 0) (len 0) (cap 0), .slice (so 1) (len 1) (cap 1)] 29)).alloc (.cells #[.slice none 0 0, .slice none 0 0] 30)

  generalize hA : w1.heap.size + 1 = A at hst htt ⊢
  generalize hL : A + 1 = L at hst htt ⊢
  generalize hU : L + 1 = U at hst htt ⊢
  generalize hP : twoP w.heap.size w1.heap.size = P at hst
  generalize hw2 : (((w1.alloc (.cells #[.slice none 0 0] 27)).alloc (.cells #[.pointer (some ⟨w.heap.size, 0, none⟩), .pointer (some ⟨w1.heap.size, 0, none⟩)] 28)).alloc (.cells #[.slice (so 0) (len 0) (cap 0), .slice (so 1) (len 1) (cap 1)] 29)).alloc (.cells #[.slice none 0 0, .slice none 0 0] 30) = w2 at hst htt ⊢
  have HST := hide hst
  have HTT := hide htt
  clear hA hL hU hP hw2 hst htt hw1 ht1 hl1
  go_loopw [8] (fun x ws => ∃ (i : Nat) (V X : Nat → Value), i ≤ 1048576 ∧ x = .int .i64 i ∧ St ws w.heap.size A L U P (fun k => .slice (so k) (len k) (cap k)) V X (done D len i 0) ∧ Touch (fun _ => False) w ws) (fun x _ => 1048576 - (intOf x).toNat)
  case atStart => exact ⟨0, _, _, Nat.zero_le _, rfl, HST.out.eqB (fun k _ => by simp [done, formsTo]), HTT.out⟩
  case round =>
    obtain ⟨i, V, X, hi, rfl, hso, hto⟩ := hrel
    obtain ⟨wo, rfl⟩ : ∃ wo : World, wo = wr := ⟨_, rfl⟩
    have l0 := hl 0 (by omega)
    have l1 := hl 1 (by omega)
    by_cases hlt : i < len 0 ∨ i < len 1
    · have HSO := hide hso
      have HTO := hide hto
      clear hso hto HST HTT
      have hi2 : i < 1048576 := by omega
      go_upto_region 7 with fail
      go_cut [36] from 27 to 81 (fun s36 wc => s36 = .bool true ∧ wc = wo)
      case first =>
        by_cases hlt0 : i < len 0
        · go_wp2_with fail
          go_meet
          case rel => exact ⟨rfl, rfl⟩
        · have hlt1 : i < len 1 := by omega
          go_wp2_with fail
          go_meet
          case rel => exact ⟨rfl, rfl⟩
      case rest =>
        obtain ⟨rfl, rfl⟩ := hcut
        clear hlt l0 l1
        go_wp2_with fail
        go_loopw [9] (fun x ws => ∃ (k : Nat) (V X : Nat → Value), k ≤ 2 ∧ x = .int .i64 k ∧ St ws w.heap.size A L U P (fun k => .slice (so k) (len k) (cap k)) V X (done D len i k) ∧ Touch (fun _ => False) w ws) (fun x _ => 2 - (intOf x).toNat)
        case atStart => exact ⟨0, V, X, Nat.zero_le _, rfl, HSO.out, HTO.out⟩
        case round =>
          obtain ⟨k, V1, X1, hk, rfl, hsi, hti⟩ := hrel
          by_cases hlk : k < 2
          · have c1 := hsi.cellL k hlk
            by_cases hik : i < len k
            · have c2 := hsi.cellA k hlk
              obtain ⟨b, off, hso⟩ := (hsp k hlk).addr (by omega)
              obtain ⟨s1, s2, s3, s4, s5⟩ := (hsp k hlk).cell b off hso i hik
              have hok := (hsp k hlk).ok i hik
              have hbl := hide (show (done D len i k k).length ≤ 140737400000000 from by
                rw [done_at hik]
                have := formsTo_len (w := w) (D := D k) i (fun j hj => (hsp k hlk).ok j (by omega))
                omega)
              have l1 := lt_of_cell s1
              have s1' := (hti.cell (p := ⟨b, off + i * 5, none⟩) l1 (fun h => h)).trans s1
              have s2' := (hti.cell (p := ⟨b, off + i * 5 + 1, none⟩) l1 (fun h => h)).trans s2
              have s3' := (hti.cell (p := ⟨b, off + i * 5 + 2, none⟩) l1 (fun h => h)).trans s3
              have s4' := (hti.cell (p := ⟨b, off + i * 5 + 3, none⟩) l1 (fun h => h)).trans s4
              have s5' := (hti.cell (p := ⟨b, off + i * 5 + 4, none⟩) l1 (fun h => h)).trans s5
              rw [hso] at c1
              obtain ⟨d, hd⟩ : ∃ d, D k i = d := ⟨_, rfl⟩
              rw [hd] at s1' s2' s3' s4' s5' hok
              have PA := hide (fun W (ht : Touch (fun _ => False) wr W) => put_any (P k) (V1 k) (done D len i k k) d.kind d.X d.s d.bo d.lo d.B d.L d.bc d.lc W ((hsi.none ht).wr k hlk) hok.x hok.s ((hok.b.touch hti (fun _ _ h => h)).touch ht (fun _ _ h => h)) hok.b8 hok.bl ((hok.l.touch hti (fun _ _ h => h)).touch ht (fun _ _ h => h)) hok.l64 hok.ll hbl.out (apart_old hok.b (hsi.nP k hlk) (hsi.nV k hlk)) (apart_old hok.l (hsi.nP k hlk) (hsi.nV k hlk)))
              have FL := hide (show d.form.length ≤ 12000000 from hok.form_len)
              obtain ⟨dk, dX, ds, dbo, dB, dbc, dlo, dL, dlc⟩ := d
              dsimp only at s1' s2' s3' s4' s5' PA
              unfold putVal at PA
              clear s1 s2 s3 s4 s5 hok
              have HSI := hide hsi
              have HTI := hide hti
              clear hsi hti HSO HTO
              go_wp2_with fail
              go_cut [10, 11] from 39 to 81 (fun s10 s11 wc => ∃ a n c v', s10 = .slice a n c ∧ s11 = .bool true ∧ n = (D k i).form.length ∧ Seg wc .u8 a (D k i).form ∧ Wr wc (P k) v' (done D len i k k ++ (D k i).form) ∧ ∃ wm, Touch (fun _ => False) wr wm ∧ Wrote wm (P k) (V1 k) wc v')
              case first =>
                -- SLOW
                go_region_with (go_at_call 10; refine (PA.out _ ((Touch.refl _ _).drew)).mono ?_; rintro r w5 ⟨a, n, c, v', rfl, rfl, hseg, hw5, ho5⟩)
                all_goals go_wp2_with fail
                all_goals go_meet
                all_goals (case rel => rw [hd]; exact ⟨a, _, c, v', rfl, rfl, rfl, hseg, hw5, _, (Touch.refl _ _).drew, ho5⟩)
                -- END
              case rest =>
                obtain ⟨a, n, c, v', rfl, rfl, rfl, hseg, hw5, wm, htm, ho5⟩ := hcut
                have hsm := HSI.out.none htm
                obtain ⟨q1, q2, q3, q4, q5⟩ := hsm.put hlk ho5
                have u1 := (two_cell q3 k hlk).1
                have hrw := q4 k hlk
                have B1 := hide (show (done D len i k k).length + (D k i).form.length ≤ 140737488000000 from by have := hbl.out; have := FL.out; rw [hd]; omega)
                obtain ⟨i0, hi0, hz0, hz1, hz2⟩ := info_parts Try.info5
                clear s1' s2' s3' s4' s5' PA c1 c2 q1 q2 q3 q4 q5 hd FL hbl
                go_wp2_with (at_builtin; refine wpList_append_row _ rfl (.tmp 65) (.tmp 66) 25 25 rfl 5 i0 (.int .u8 0) .u8 1 Try.underlying25 hi0 hz0 hz1 hz2 rfl _ (done D len i k k) rfl hrw _ (D k i).form rfl (hseg.src Try.underlying25 _) ?b1 ?b2 ?nx)
                case b1 => have := B1.out; unfold maxLen; omega
                case b2 => have := B1.out; omega
                case nx =>
                  intro ao1 n1 cap1 w6 hr6 hg6
                  have HN := hide hr6.len
                  have u2 := two_cell (hsm.grow hlk ho5 hg6) k hlk
                  obtain ⟨u2, u3⟩ := u2
                  obtain ⟨hs7, ht7⟩ := hsm.step (Nat.le_trans HTI.out.size htm.size) hlk hw5 ho5 hr6 hg6
                  have HS7 := hide hs7
                  have HT7 := hide ((HTI.out.trans htm (fun _ _ h => h)).trans ht7 (fun j hj e => by omega))
                  have u4 := hs7.cellU k hlk
                  have u5 := hs7.cellA k hlk
                  rw [upd_self] at u4
                  clear hs7 ht7 hrw u1 hsm hseg hw5 ho5 hr6 hg6
                  generalize hw7 : w6.setCell ⟨U, k, none⟩ (.slice ao1 n1 cap1) = w7 at HS7 HT7 u4 u5
                  have LK := hide (fun W (ht : Touch (fun _ => False) w7 W) => len_any (P k) v' (done D len i k k ++ (D k i).form) W (by have := (HS7.out.none ht).wr k hlk; simpa only [upd_self] using this))
                  go_wp2_with fail
                  clear hw7 u2 u3
                  go_cut [81] from 39 to 81 (fun s81 wc => s81 = .bool false ∧ Touch (fun _ => False) w7 wc)
                  case first =>
                    -- SLOW
                    go_region_with (go_at_call 11; refine (LK.out _ ((Touch.refl _ _).drew)).mono ?_; rintro r w8 ⟨rfl, hq⟩; obtain rfl := hq.symm)
                    all_goals go_wp2_with fail
                    all_goals go_meet
                    all_goals (case rel => exact ⟨by have := HN.out; rw [List.length_append] at this; simp [this], (Touch.refl _ _).drew⟩)
                    -- END
                  case rest =>
                    obtain ⟨rfl, ht8⟩ := hcut
                    go_wp2_with fail
                    go_roundw
                    case rel => exact ⟨k + 1, _, _, by omega, by go_num, (HS7.out.none ht8).eqB (fun j _ => done_step hik j), HT7.out.trans ht8 (fun _ _ h => h)⟩
                    case measure => simp [intOf]; omega
            · have HSI := hide hsi
              have HTI := hide hti
              clear hsi hti
              go_wp2_with fail
              go_roundw
              case rel => exact ⟨k + 1, V1, X1, by omega, by go_num, HSI.out.eqB (fun j _ => done_skip hik j), HTI.out⟩
              case measure => simp [intOf]; omega
          · obtain rfl : k = 2 := by omega
            go_wp2_with fail
            go_roundw
            case rel => exact ⟨i + 1, V1, X1, by omega, by go_num, hsi.eqB (fun j hj => done_round hj), hti⟩
            case measure => simp [intOf]; omega
    · have n0 : ¬ i < len 0 := fun e => hlt (.inl e)
      have n1 : ¬ i < len 1 := fun e => hlt (.inr e)
      have HS := hide (hso.eqB (B' := fun k => formsTo (D k) (len k)) (two_cases (done_all n0) (done_all n1)))
      have HT := hide hto
      clear hso hto HST HTT hlt
      go_wp2_with fail
      clear n0 n1
      go_loopw [12] (fun x ws => ∃ (k : Nat), k ≤ 2 ∧ x = .int .i64 k ∧ St ws w.heap.size A L U P (fun k => .slice (so k) (len k) (cap k)) V X (fun k => formsTo (D k) (len k)) ∧ Touch (fun _ => False) w ws) (fun x _ => 2 - (intOf x).toNat)
      case atStart => exact ⟨0, Nat.zero_le _, rfl, HS.out, HT.out⟩
      case round =>
        obtain ⟨k, hk, rfl, hsi, hti⟩ := hrel
        obtain ⟨ws, rfl⟩ : ∃ ws : World, ws = wr := ⟨_, rfl⟩
        by_cases hlk : k < 2
        · have h8 := hide (formsTo_in8 (w := w) (D := D k) (len k) (fun j hj => (hsp k hlk).ok j hj))
          have hbl := hide (show (formsTo (D k) (len k)).length ≤ 140737400000000 from by
            have := formsTo_len (w := w) (D := D k) (len k) (fun j hj => (hsp k hlk).ok j hj)
            have := hl k hlk
            omega)
          have c1 := hsi.cellA k hlk
          have c2 := hsi.cellU k hlk
          obtain ⟨xo, xn, xc, hX⟩ := (hsi.row k hlk).shape
          rw [hX] at c2
          have hxr := hsi.row k hlk
          rw [hX] at hxr
          have hxn := hxr.len
          have BK := hide (fun W (ht : Touch (fun _ => False) ws W) => bytes_any (P k) (V k) (formsTo (D k) (len k)) W ((hsi.none ht).wr k hlk) (by have := hbl.out; omega))
          have CK := hide (fun W (ht : Touch (fun _ => False) ws W) => (hsi.none ht).cellU k hlk)
          have RK := hide (fun W (ht : Touch (fun _ => False) ws W) => (hxr.touch ht (fun _ _ h => h)))
          obtain ⟨bs, hbs⟩ : ∃ bs, formsTo (D k) (len k) = bs := ⟨_, rfl⟩
          rw [hbs] at h8 hbl hxr hxn BK RK
          subst hxn
          rw [hX] at CK
          have HSI := hide hsi
          have HTI := hide hti
          clear hsi hti hxr HS HT hX hbs
          go_wp2_with fail
          go_cut [13, 14] from 82 to 137 (fun s13 s14 wc => ∃ gx cx gy cy, s13 = .slice (some ⟨gx, 0, none⟩) bs.length cx ∧ s14 = .slice (some ⟨gy, 0, none⟩) bs.length cy ∧ Row wc 5 .u8 (.slice (some ⟨gx, 0, none⟩) bs.length cx) bs ∧ Row wc 5 .u8 (.slice (some ⟨gy, 0, none⟩) bs.length cy) bs ∧ gx ≠ gy ∧ ws.heap.size ≤ gx ∧ ws.heap.size ≤ gy ∧ Touch (fun _ => False) ws wc)
          case first =>
            -- SLOW
            go_region_with (first | (go_at_call 12; refine (BK.out _ ((Touch.refl _ _).drew)).mono ?_; rintro r w5 ⟨n5, c5, rfl, hr5, ht5, hl5⟩; obtain rfl := hr5.len; have T5 := ((Touch.refl (fun _ => False) _).drew).trans ht5 (fun _ _ h => h); have c1' := (T5.cell (p := ⟨A, k, none⟩) (lt_of_cell c1) (fun h => h)).trans c1) | (go_at_call 12; refine (BK.out _ T5).mono ?_; rintro r w6 ⟨n6, c6, rfl, hr6, ht6, hl6⟩; obtain rfl := hr6.len))
            all_goals go_wp2_with fail
            all_goals go_meet
            all_goals (case rel => first
              | exact ⟨_, _, _, _, rfl, rfl, hr5.touch ht6 (fun _ _ h => h), hr6, by simp at hl5; omega, by simp, by have := T5.size; omega, T5.trans ht6 (fun _ _ h => h)⟩
              | exact ⟨_, _, _, _, rfl, rfl, hr6, hr5.touch ht6 (fun _ _ h => h), by simp at hl5; omega, by have := T5.size; omega, by simp, T5.trans ht6 (fun _ _ h => h)⟩)
            -- END
          case rest =>
            obtain ⟨gx, cx, gy, cy, rfl, rfl, hrx, hry, hxy, hgx, hgy, htc⟩ := hcut
            have c2' := (htc.cell (p := ⟨U, k, none⟩) (lt_of_cell c2) (fun h => h)).trans c2
            have SM := hide (same_any (some ⟨gx, 0, none⟩) xo bs bs cx xc wc (Seg.of_row hrx) (Seg.of_row (RK.out _ htc)) h8.out h8.out)
            have HRX := hide hrx
            have HRY := hide hry
            have HTC := hide htc
            clear hrx hry htc
            go_wp2_with fail
            refine SM.out.mono ?_
            rintro r w7 ⟨bb, rfl, hbb, hq⟩
            obtain rfl := hq.symm
            obtain rfl : bb = true := hbb.2 (by first | rfl | trivial)
            clear hbb hq SM
            go_wp2_with fail
            go_loopw [15] (fun x wr => ∃ (j : Nat) (zs : List Int), j ≤ bs.length ∧ x = .int .i64 j ∧ zs.length = bs.length ∧ Row wr 5 .u8 (.slice (some ⟨gx, 0, none⟩) bs.length cx) zs ∧ Row wr 5 .u8 (.slice (some ⟨gy, 0, none⟩) bs.length cy) bs ∧ Touch (fun _ => False) ws wr) (fun x _ => bs.length - (intOf x).toNat)
            case atStart => exact ⟨0, bs, Nat.zero_le _, rfl, rfl, HRX.out, HRY.out, HTC.out⟩
            case round =>
              obtain ⟨j, zs, hj, rfl, hzl, hrz, hrY, htz⟩ := hrel
              have hbm := hbl.out
              by_cases hjl : j < bs.length
              · have k1 := hrz.cell j (by omega)
                have k2 := hrz.frozen j
                have RS := hide (hrz.set j 99)
                have TS := Touch.setCell (p := ⟨gx, j, none⟩) (u := .int .u8 99) (Touch.refl (fun q => q = gx) wr) (fun _ => rfl)
                have RY := hide (hrY.touch TS (fun g hg e => by simp [Value.ownBlock] at hg; omega))
                have TZ := hide (htz.trans TS (fun q hq e => by omega))
                obtain ⟨zk, hzk⟩ : ∃ zk, zs[j]'(by omega) = zk := ⟨_, rfl⟩
                rw [hzk] at k1
                have HZ := hide hzl
                clear hrz hzk hzl hrY htz TS HRX HRY HTC
                go_wp2
                go_roundw
                case rel => exact ⟨j + 1, zs.set j 99, by omega, by go_num, by rw [List.length_set]; exact HZ.out, RS.out, RY.out, TZ.out⟩
                case measure => simp [intOf]; omega
              · have RZ := hide hrz
                have RY := hide hrY
                have TZ := hide htz
                have HZ := hide hzl
                clear hrz hrY htz hzl HRX HRY HTC
                go_wp2_with fail
                clear hj hjl
                go_loopw [13, 16] (fun x y wr => ∃ (m : Nat) (zs : List Int), m ≤ 20 ∧ y = .int .i64 m ∧ zs.length = bs.length + m ∧ Row wr 5 .u8 x zs ∧ Row wr 5 .u8 (.slice (some ⟨gy, 0, none⟩) bs.length cy) bs ∧ (∀ g, x.ownBlock = some g → g ≠ gy ∧ ws.heap.size ≤ g) ∧ Touch (fun _ => False) ws wr) (fun _ y _ => 20 - (intOf y).toNat)
                case atStart => exact ⟨0, zs, Nat.zero_le _, rfl, HZ.out, RZ.out, RY.out, fun g hg => by simp [Value.ownBlock] at hg; omega, TZ.out⟩
                case round =>
                  obtain ⟨m, ys, hm, rfl, hyl, hrv, hrY, hfr, htv⟩ := hrel
                  obtain ⟨vo, vn, vc, rfl⟩ := hrv.shape
                  by_cases hml : m < 20
                  · obtain ⟨i0, hi0, hz0, hz1, hz2⟩ := info_parts Try.info5
                    have B1 := hide (show ys.length + 1 ≤ 140737400000100 from by omega)
                    have RA := hide (hrv.alloc (.cells #[.int .u8 99] 5))
                    have RYA := hide (hrY.alloc (.cells #[.int .u8 99] 5))
                    have TA := hide (htv.alloc (.cells #[.int .u8 99] 5))
                    have FR := hide hfr
                    have HY := hide hyl
                    have HVL := hide (fun g hg => hrv.lt (g := g) hg)
                    clear hrv hrY htv hfr hyl RZ RY TZ HZ hbm
                    go_wp2_with (at_builtin; refine wpList_append_row _ rfl (.tmp 113) (.tmp 114) 25 25 rfl 5 i0 (.int .u8 0) .u8 1 Try.underlying25 hi0 hz0 hz1 hz2 rfl _ ys rfl RA.out _ [99] rfl (src_one Try.underlying25 wr .u8 99 5) ?b1 ?b2 ?nx)
                    case b1 => have := B1.out; unfold maxLen; simp; omega
                    case b2 => have := B1.out; simp; omega
                    case nx =>
                      intro ao1 n1 cap1 w9 hr9 hg9
                      have HR9 := hide hr9
                      have RY9 := hide (RYA.out.touch hg9.touch (fun g hg e => (FR.out g e).1 (by simp [Value.ownBlock] at hg; omega)))
                      have T9 := hide (TA.out.trans hg9.touch (fun q hq e => by have := (FR.out q e).2; omega))
                      have F9 := hide (show ∀ g, (Value.slice ao1 n1 cap1).ownBlock = some g → g ≠ gy ∧ ws.heap.size ≤ g from fun g hg => by
                        rcases hg9.fresh with e | ⟨q, e, hq⟩
                        · rw [hg] at e; exact FR.out g e.symm
                        · rw [hg] at e; injection e with e
                          have := TA.out.size
                          have := RYA.out.lt (g := gy) rfl
                          omega)
                      clear hr9 hg9
                      go_wp2_with fail
                      go_roundw
                      case rel => exact ⟨m + 1, ys ++ [99], by omega, by go_num, by simp [HY.out]; omega, HR9.out, RY9.out, F9.out, T9.out⟩
                      case measure => simp [intOf]; omega
                  · obtain rfl : m = 20 := by omega
                    have hvn := hrv.len
                    rw [hyl] at hvn
                    subst hvn
                    have d1 := (htv.cell (p := ⟨A, k, none⟩) (lt_of_cell c1) (fun h => h)).trans c1
                    have d2 := (htv.cell (p := ⟨U, k, none⟩) (lt_of_cell c2) (fun h => h)).trans c2
                    have S1 := hide (fun W (ht : Touch (fun _ => False) wr W) => same_any (some ⟨gy, 0, none⟩) xo bs bs cy xc W (Seg.of_row (hrY.touch ht (fun _ _ h => h))) (Seg.of_row (RK.out W (htv.trans ht (fun _ _ h => h)))) h8.out h8.out)
                    have S2 := hide (fun W g c (ht : Touch (fun _ => False) wr W) (hr : Row W 5 .u8 (.slice (some ⟨g, 0, none⟩) bs.length c) bs) => same_any (some ⟨g, 0, none⟩) xo bs bs c xc W (Seg.of_row hr) (Seg.of_row (RK.out W (htv.trans ht (fun _ _ h => h)))) h8.out h8.out)
                    have BB := hide (fun W (ht : Touch (fun _ => False) wr W) => BK.out W (htv.trans ht (fun _ _ h => h)))
                    have HTV := hide htv
                    clear hrv hrY htv hfr hyl RZ RY TZ HZ hbm BK RK CK c1 c2 c2' h8
                    go_wp2_with fail
                    go_cut [137] from 82 to 137 (fun s137 wc => s137 = .bool false ∧ Touch (fun _ => False) wr wc)
                    case first =>
                      -- SLOW
                      go_region_held3 (fun W => W.cell? ⟨A, k, none⟩ = some (.pointer (some ⟨P k, 0, none⟩)) ∧ W.cell? ⟨U, k, none⟩ = some (.slice xo bs.length xc)) (go_keep) (first | (go_at_call 13; refine (S1.out _ ((Touch.refl _ _).drew)).mono ?_; rintro r w' ⟨bb, rfl, hbb, hq⟩; obtain rfl := hq.symm; obtain rfl : bb = true := hbb.2 (by first | rfl | trivial); clear hbb) | (go_at_call 12; refine (BB.out _ ((Touch.refl _ _).drew)).mono ?_; rintro r w10 ⟨n10, c10, rfl, hr10, ht10, hl10⟩; obtain rfl := hr10.len; have T10 := ((Touch.refl (fun _ => False) wr).drew).trans ht10 (fun _ _ h => h); have d3 := (T10.cell (p := ⟨U, k, none⟩) (lt_of_cell d2) (fun h => h)).trans d2; have d4 := (T10.cell (p := ⟨A, k, none⟩) (lt_of_cell d1) (fun h => h)).trans d1) | (go_at_call 13; refine (S2.out _ _ _ T10 hr10).mono ?_; rintro r w' ⟨bb, rfl, hbb, hq⟩; obtain rfl := hq.symm; obtain rfl : bb = true := hbb.2 (by first | rfl | trivial); clear hbb))
                      all_goals go_wp2_with fail
                      all_goals go_meet
                      all_goals (case rel => exact ⟨rfl, T10⟩)
                      -- END
                    case rest =>
                      obtain ⟨rfl, ht8⟩ := hcut
                      go_wp2_with fail
                      go_roundw
                      case rel => exact ⟨k + 1, by omega, by go_num, HSI.out.none (HTV.out.trans ht8 (fun _ _ h => h)), (HTI.out.trans HTV.out (fun _ _ h => h)).trans ht8 (fun _ _ h => h)⟩
                      case measure => simp [intOf]; omega
        · obtain rfl : k = 2 := by omega
          have HTI := hide hti
          clear hsi hti
          go_wp2_with fail
          refine (known_any _).mono ?_
          rintro r w6 ⟨rfl, ht6⟩
          go_wp2_with fail
          go_ret
          exact ⟨rfl, (HTI.out.trans ht6 (fun _ _ h => h)).below (fun _ _ h => h)⟩

end Go.Proofs.Ythhajlbnnffgnaa
