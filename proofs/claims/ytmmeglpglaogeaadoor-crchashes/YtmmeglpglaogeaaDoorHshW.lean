/- The walk of CrcHashes. -/
import Derived.Test.YtmmeglpglaogeaaDoorHshQ
import Derived.Deep.RegionWith
import Derived.Test.YtmmeglpglaogeaaDoorWorks
namespace Go.Proofs.YtmmeglpglaogeaaDoor
open Go.RowKit Crcx

set_option maxRecDepth 100000 in
set_option maxHeartbeats 4000000 in
theorem hashes_walk (ao : Option Addr) (cap : Nat) (ops : List Opx) (w : World) (ht : Tab w) (hs : SegO w ao ops) (hb : ops.length ≤ 1048576) : Calls Tryd.prog 3 #[.slice ao ops.length cap] w fun e w' => e = .returned (.bool true) ∧ Touch (fun _ => False) w w' := by
  have HT := hide ht
  have HS := hide hs
  have HB := hide hb
  obtain ⟨N, hN⟩ : ∃ N, ops.length = N := ⟨_, rfl⟩
  have HN := hide hN
  rw [hN] at HB ⊢
  clear ht hs hb hN
  go_enter Tryd.func3, Tryd.ntmps3
  go_wp2_with fail
  go_loopw [5] (fun i wr => ∃ (k : Nat) (g : Nat → Nat), i = .int .i64 (k : Int) ∧ k ≤ 3 ∧ Tp w wr w.heap.size (w.heap.size + 1) k g) (fun i _ => 3 - (intOf i).toNat)
  case atStart => exact ⟨0, fun _ => 0, rfl, by omega, tp0 w _⟩
  case round =>
    obtain ⟨k, g, rfl, hk, tp⟩ := hrel
    by_cases hlt : k < 3
    · have hlt' : (k : Int) < 3 := by omega
      have TP := hide tp
      have HW := hide (fun W' (h : Touch (fun _ => False) wr W') => (tp.quiet h).cell k hlt)
      clear tp
      go_wp2_with fail
      refine (new_any _).mono ?_
      rintro e w1 ⟨rfl, hh, t1⟩
      obtain ⟨q0, q1⟩ := HW.out w1 t1
      have TM := hide ((TP.out.quiet t1).more hlt hh (fun i hi => by have := (TP.out.hs i hi).lt; omega) (Nat.le_trans TP.out.touch.size (Nat.le_refl _)))
      obtain ⟨q2, q3⟩ := TM.out.cell k hlt
      rw [show opn (k + 1) (upd g k wr.heap.size) k = .pointer (some ⟨wr.heap.size, 0, none⟩) by unfold opn hp; rw [if_pos (Nat.lt_succ_self k), upd_self]] at q2
      clear hh t1 HW
      go_wp2_with fail
      go_roundw
      case rel => exact ⟨k + 1, _, by simp, hlt, TM.out⟩
      case measure => simp [intOf]; omega
    · have e : k = 3 := by omega
      subst e
      have TH := hide tp.all
      generalize hOB : w.heap.size = OB at *
      have HOB := hide hOB
      clear hOB tp hk hlt
      go_wp2_with fail
      go_loopw [6] (fun i wr => ∃ (k : Nat) (g s l : Nat → Nat) (t : Nat → Txt), i = .int .i64 (k : Int) ∧ k ≤ N ∧ Th w wr OB (OB + 1) g s l t ∧ Gd s l t (k * 1048576)) (fun i _ => N - (intOf i).toNat)
      case atStart => exact ⟨0, _, _, _, _, rfl, Nat.zero_le _, TH.out, gd0⟩
      case round =>
        obtain ⟨k, g, s, l, t, rfl, hk, th, gd⟩ := hrel
        by_cases hlt : k < N
        · have hlt' : (k : Int) < (N : Int) := by omega
          have so := HS.out.touch th.touch
          have hkl : k < ops.length := by have := HN.out; omega
          obtain ⟨b1, o1, rfl⟩ := so.addr (by omega)
          obtain ⟨p0, p1, p2, p3⟩ := so.cell b1 o1 rfl k hkl
          have ok := so.ok _ (List.getElem_mem hkl)
          simp only [Txt.val] at p3
          have HO := hide ok
          have HTh := hide th
          have HGd := hide gd
          obtain ⟨n, hn3, hn⟩ := third ops[k].on
          obtain ⟨m, hm3, hm⟩ := third ops[k].to
          have hni : (n : Int) < 3 := by omega
          have hmi : (m : Int) < 3 := by omega
          have SW := hide (wrap_up (n := k) (m := N) hlt (by have := HB.out; omega))
          generalize ops[k] = op at *
          obtain ⟨kind, fon, fto, ⟨ba, bc, xs⟩⟩ := op
          simp only at p0 p1 p2 p3 hn hm
          have th1 := HTh.out.quiet ((Touch.refl (fun _ => False) wr).alloc (.cells #[.int .i64 kind, .int .i64 fon, .int .i64 fto, .slice ba xs.length bc] 29))
          have hsz : (wr.alloc (.cells #[.int .i64 kind, .int .i64 fon, .int .i64 fto, .slice ba xs.length bc] 29)).heap.size = wr.heap.size + 1 := by simp
          obtain ⟨c0, c1⟩ := th1.cellO n hn3
          obtain ⟨c2, c3⟩ := th1.cellR n hn3
          obtain ⟨c4, c5⟩ := th1.cellO m hm3
          have TH1 := hide th1
          have HSZ := hide hsz
          clear so ok th gd hkl th1 hsz
          by_cases hk0 : 0 ≤ kind ∧ kind ≤ 2
          · obtain ⟨hk1, hk2⟩ := hk0
            have hxl : xs.length ≤ 1048576 := HO.out.len
            have h8 : In8 xs := HO.out.t.in8
            have ta := (Touch.refl (fun _ => False) wr).alloc (.cells #[.int .i64 kind, .int .i64 fon, .int .i64 fto, .slice ba xs.length bc] 29)
            have SG := hide (HO.out.t.seg.touch ta (fun _ _ h => h))
            have LB := hide (lend_any ba xs bc (wr.alloc (.cells #[.int .i64 kind, .int .i64 fon, .int .i64 fto, .slice ba xs.length bc] 29)) SG.out (by omega))
            have HXL := hide hxl
            have H8 := hide h8
            have HBB : Hid (k * 1048576 ≤ 1099511627776) := hide (by have := HB.out; have : k * 1048576 ≤ 1048576 * 1048576 := Nat.mul_le_mul_right _ (by omega); omega)
            have KN := hide (fun n' => num_any n')
            obtain ⟨K2, hK2, hK2l⟩ := half xs.length hxl
            clear hxl ta h8
            go_wp2_with fail
            refine LB.out.mono ?_
            rintro e w2 ⟨gx, c, rfl, lgx, lent, t2⟩
            have WX2 : Hid (Wx w w2 OB g s l t wr.heap.size gx c kind fon fto ba bc xs) := hide ⟨TH1.out.quiet t2, lent, (t2.block wr.heap.size (by rw [HSZ.out]; omega) (fun h => h)).trans (heap_alloc_last wr _), SG.out.touch t2 (fun _ _ h => h)⟩
            have hcap := lent.cap
            have HGX : Hid (wr.heap.size < gx) := hide (by have := HSZ.out; omega)
            have s1 : (K2 : Int) ≤ (xs.length : Int) := by omega
            have s2 : (K2 : Int) ≤ (c : Int) := by omega
            have s3 : ¬ c = K2 := by omega
            have HK2 := hide hK2l
            clear lent t2 LB SG p0 p1 p2 p3 c0 c1 c2 c3 c4 c5 lgx hcap hK2l
            go_wp2_with fail
            rw [hK2]
            clear hK2
            obtain ⟨d0, _⟩ := WX2.out.th.cellO n hn3
            have W2A := hide (WX2.out.quiet ((Touch.refl (fun _ => False) w2).alloc (.cells #[.slice (some ⟨gx, 0, none⟩) K2 K2, .slice (some ⟨gx, K2, none⟩) (xs.length - K2) (c - K2)] 25)))
            obtain ⟨d2, _⟩ := W2A.out.th.cellO n hn3
            have KW := hide (fun W (h : Touch (fun _ => False) (w2.alloc (.cells #[.slice (some ⟨gx, 0, none⟩) K2 K2, .slice (some ⟨gx, K2, none⟩) (xs.length - K2) (c - K2)] 25)) W) => write_x (W2A.out.quiet h) hn3 HK2.out HT.out HGd.out HBB.out H8.out HXL.out ((h.block w2.heap.size (by simp) (fun h => h)).trans (heap_alloc_last w2 _)))
            go_cut [81] from 61 to 81 (fun v wc => v = .bool false ∧ Wx w wc OB g (upd s n (more (s n) (nats xs))) (upd l n (l n + xs.length)) t wr.heap.size gx c kind fon fto ba bc xs)
            case first =>
              go_region_with (first | (go_at_call 7; refine (KW.out _ ((Touch.refl _ _).drew)).mono ?_; rintro e w4 ⟨rfl, wx4⟩; have f4 := wx4.field; have WX4 := hide wx4; have KP := hide (kept_any gx c ba xs bc w4 wx4.lent wx4.seg (by have := HXL.out; omega)); clear wx4) | (go_at_call 6; refine (KN.out _ _).mono ?_; rintro e w' ⟨rfl, rfl⟩) | (go_at_call 8; refine KP.out.mono ?_; rintro e w' ⟨rfl, rfl⟩))
              all_goals go_wp2_with fail
              all_goals go_meet
              all_goals (case rel => exact ⟨rfl, WX4.out⟩)
            case rest =>
              obtain ⟨rfl, wx4⟩ := hcut
              obtain ⟨f0, f1⟩ := wx4.th.cellR n hn3
              have f2 := wx4.field
              have WX4 := hide wx4
              have OKT := hide (wx4.th.ok n hn3)
              have HTL : Hid ((t n).xs.length + xs.length ≤ 1099512676352) := hide (by have := HGd.out.le n hn3; have := HBB.out; have := HXL.out; omega)
              have HTLA : Hid ((t n).xs.length ≤ 1099512676352) := hide (by have := HTL.out; omega)
              have CCR : Hid (∀ W', Touch (fun _ => False) wc W' → W'.cell? ⟨OB + 1, n, none⟩ = some (.slice (t n).ao (t n).xs.length (t n).cap) ∧ W'.frozen? ⟨OB + 1, n, none⟩ = false ∧ W'.cell? ⟨wr.heap.size, 3, none⟩ = some (.slice ba xs.length bc)) := hide (fun W' h => ⟨((WX4.out.quiet h).th.cellR n hn3).1, ((WX4.out.quiet h).th.cellR n hn3).2, (WX4.out.quiet h).field⟩)
              obtain ⟨i0, hi, hz0, hz1, hz2⟩ := info_parts infoU8
              have TE := (Touch.refl (fun _ => False) wc).alloc (.cells #[] 5)
              have TED := hide TE.drew
              obtain ⟨f3, f4, f5⟩ := CCR.out _ TE
              have HE0 := hide (show ∀ q, (Value.slice (some ⟨wc.heap.size, 0, none⟩) 0 0).ownBlock = some q → wc.heap.size ≤ q from fun q hq => by simp [Value.ownBlock] at hq; omega)
              have B1 : Hid (([] : List Int).length + (t n).xs.length ≤ maxLen) := hide (by have := HTLA.out; unfold maxLen; simp; omega)
              have B2 : Hid ((([] : List Int).length + (t n).xs.length) * 1 ≤ 140737488355328) := hide (by have := HTLA.out; simp; omega)
              have B3 : Hid (([] ++ (t n).xs).length + xs.length ≤ maxLen) := hide (by have := HTL.out; unfold maxLen; simp; omega)
              have B4 : Hid ((([] ++ (t n).xs).length + xs.length) * 1 ≤ 140737488355328) := hide (by have := HTL.out; simp; omega)
              clear wx4 KW W2A d0 d2 TE
              go_wp2_with fail
              go_cut [] from 82 to 91 (fun wc' => ∃ ta tc, Wx w wc' OB g (upd s n (more (s n) (nats xs))) (upd l n (l n + xs.length)) (upd t n ⟨ta, tc, (t n).xs ++ xs⟩) wr.heap.size gx c kind fon fto ba bc xs ∧ ∀ a, ta = some a → a.block ≠ gx)
              case first =>
                go_region_law (first | (refine step_append_row rfl (.tmp 83) (.tmp 86) 25 25 rfl 5 i0 (.int .u8 0) .u8 1 Tryd.underlying25 hi hz0 hz1 hz2 rfl _ [] rfl (Row.empty wc).drew _ (t n).xs rfl ((OKT.out.seg.touch TED.out (fun _ _ h => h)).src Tryd.underlying25 _) B1.out B2.out ?_; intro ao5 n5 c5 w5 hr5 hg5; have T5 := hide (one_grew TED.out HE0.out hg5); obtain ⟨f6, f7, f8⟩ := CCR.out w5 T5.out) | (refine step_append_row rfl (.tmp 87) (.tmp 89) 25 25 rfl 5 i0 (.int .u8 0) .u8 1 Tryd.underlying25 hi hz0 hz1 hz2 rfl _ ([] ++ (t n).xs) rfl hr5 _ xs rfl ((WX4.out.seg.touch T5.out (fun _ _ h => h)).src Tryd.underlying25 _) B3.out B4.out ?_; intro ao6 n6 c6 w6 hr6 hg6; have GG := hide (two_grew TED.out HE0.out hg5 hg6); obtain ⟨f9, f10, f11⟩ := CCR.out w6 GG.out.2.1))
                all_goals go_wp2_with fail
                all_goals go_meet
                all_goals (case rel => exact ⟨ao6, c6, WX4.out.grown hn3 GG.out.2.1 hr6 GG.out.2.2 H8.out (by have := HTL.out; omega)⟩)
              case rest =>
                obtain ⟨ta, tc, wx7, hbl⟩ := hcut
                have WX7 := hide wx7
                have HBL := hide hbl
                obtain ⟨cur0, hcur0, hcs0⟩ := wx7.lent.room
                have HC0 := hide hcur0
                have HC1 := hide hcs0
                clear wx7 hbl hcur0 hcs0 f0 f1 f2 f3 f4 f5 WX4 OKT CCR TED HE0 B1 B2 B3 B4 hi hz0 hz1 hz2
                go_wp2_with fail
                go_loopw [12] (fun i wy => ∃ (j : Nat) (cur : Array Value), i = .int .i64 (j : Int) ∧ j ≤ xs.length ∧ wy.heap[gx]? = some (.cells cur 5 (0, 0)) ∧ xs.length ≤ cur.size ∧ Touch (fun q => q = gx) wc wy) (fun i _ => xs.length - (intOf i).toNat)
                case atStart => exact ⟨0, cur0, rfl, Nat.zero_le _, HC0.out, HC1.out, Touch.refl _ _⟩
                case round =>
                  rename World => w9
                  obtain ⟨j, cur, rfl, hj, hcur, hsz, tj⟩ := hrel
                  by_cases hjl : j < xs.length
                  · have hji : (j : Int) < (xs.length : Int) := by omega
                    have hjc : j < cur.size := by omega
                    have e0 : w9.cell? ⟨gx, j, none⟩ = some cur[j] := by rw [cell_of_row _ _ _ _ _ _ hcur]; exact Array.getElem?_eq_getElem hjc
                    have e1 : w9.frozen? ⟨gx, j, none⟩ = false := by simp [World.frozen?, hcur]
                    have SJ := hide (wrap_up (n := j) (m := xs.length) hjl (by have := HXL.out; omega))
                    have HTJ : Hid (Touch (fun q => q = gx) wc (w9.setCell ⟨gx, j, none⟩ (.int .u8 0))) := hide (tj.setCell (p := ⟨gx, j, none⟩) (fun _ => rfl) _)
                    have HCJ := hide (heap_setCell_row (i := j) hcur (.int .u8 0))
                    have HSJ : Hid (xs.length ≤ (cur.setIfInBounds j (.int .u8 0)).size) := hide (by simpa using hsz)
                    generalize cur[j] = cj at *
                    clear hcur hsz tj hjc
                    go_wp2_with fail
                    go_roundw
                    case rel => exact ⟨j + 1, _, by rw [SJ.out], hjl, HCJ.out, HSJ.out, HTJ.out⟩
                    case measure => rw [SJ.out]; simp [intOf]; omega
                  · have e : j = xs.length := by omega
                    subst e
                    have TH9 := hide (WX7.out.after HTh.out HGX.out HBL.out tj)
                    have GD9 := hide (gd_write (ta := ta) (tc := tc) HGd.out hn3 HXL.out)
                    clear hcur hsz tj hj hjl WX7 HBL HC0 HC1
                    generalize hs9 : (upd s n (more (s n) (nats xs))) = s9 at *
                    generalize hl9 : (upd l n (l n + xs.length)) = l9 at *
                    generalize ht9 : upd t n ⟨ta, tc, (t n).xs ++ xs⟩ = t9 at *
                    generalize hg9 : g = g9 at *
                    clear hs9 hl9 ht9 hg9
                    obtain ⟨q0, _⟩ := TH9.out.cellO n hn3
                    obtain ⟨q2, _⟩ := TH9.out.cellR n hn3
                    have ES := GD9.out.sum n hn3
                    have EL := GD9.out.len n hn3
                    have BL := GD9.out.le n hn3
                    have HH := TH9.out.hs n hn3
                    have OK := TH9.out.ok n hn3
                    rw [ES, EL] at HH
                    have KA := hide (fun q => (hsum_any _ _ _ (w9.drewN q) (HH.touch (Touch.drewN (Touch.refl (fun _ => False) w9) q) (fun h => h))).mono (show ∀ (e : Ending) (w' : World), e = .returned (.int .u32 ((more 0 (nats (t9 n).xs) : Nat) : Int)) ∧ w9.drewN q = w' → e = .returned (.int .u32 ((more 0 (nats (t9 n).xs) : Nat) : Int)) ∧ w' = w9.drewN q from fun _ _ h => ⟨h.1, h.2.symm⟩))
                    have KB := hide (fun q => (hlen_any _ _ _ (w9.drewN q) (HH.touch (Touch.drewN (Touch.refl (fun _ => False) w9) q) (fun h => h))).mono (show ∀ (e : Ending) (w' : World), e = .returned (.int .i64 (((t9 n).xs.length : Nat) : Int)) ∧ w9.drewN q = w' → e = .returned (.int .i64 (((t9 n).xs.length : Nat) : Int)) ∧ w' = w9.drewN q from fun _ _ h => ⟨h.1, h.2.symm⟩))
                    have KC := hide (fun q => (rsum_any (t9 n).ao (t9 n).xs (t9 n).cap (w9.drewN q) (OK.seg.touch (Touch.drewN (Touch.refl (fun _ => False) w9) q) (fun _ _ h => h)) OK.in8 OK.len).mono (show ∀ (e : Ending) (w' : World), e = .returned (.int .u32 ((more 0 (nats (t9 n).xs) : Nat) : Int)) ∧ w9.drewN q = w' → e = .returned (.int .u32 ((more 0 (nats (t9 n).xs) : Nat) : Int)) ∧ w' = w9.drewN q from fun _ _ h => ⟨h.1, h.2.symm⟩))
                    have TQ := hide (fun q => TH9.out.quiet (Touch.drewN (Touch.refl (fun _ => False) w9) q))
                    clear ES EL BL HH OK
                    generalize more 0 (nats (t9 n).xs) = S at *
                    generalize (t9 n).xs.length = L at *
                    generalize (t9 n).ao = ta at *
                    generalize (t9 n).cap = tc at *
                    generalize g9 n = gn at *
                    go_wp2_with fail
                    go_quiet (first | (go_at_call 11; exact Calls.quiet_of_same (KA.out _)) | (go_at_call 13; exact Calls.quiet_of_same (KB.out _)) | (go_at_call 12; exact Calls.quiet_of_same (KC.out _)))
                    go_wp2_with fail
                    go_roundw
                    case rel => exact ⟨k + 1, g9, s9, l9, t9, by rw [SW.out], hlt, TQ.out _, GD9.out⟩
                    case measure => rw [SW.out]; simp [intOf]; omega
          · by_cases hk3 : kind = 3
            · subst hk3
              clear hk0
              go_wp2_with fail
              refine (reset_any _ _ _ _ (TH1.out.hs n hn3)).mono ?_
              rintro e w2 ⟨rfl, hh, t2⟩
              have TH2 := hide (TH1.out.hash hn3 t2 hh)
              obtain ⟨r0, r1⟩ := TH2.out.cellR n hn3
              have TH9 := hide (TH2.out.text hn3 ⟨none, 0, []⟩ nil_ok)
              have GD9 : Hid (Gd (upd s n 0) (upd l n 0) (upd t n ⟨none, 0, []⟩) ((k + 1) * 1048576)) := hide ((HGd.out.mono (Nat.mul_le_mul_right _ (Nat.le_succ k))).put ⟨none, 0, []⟩ (Nat.zero_le _))
              clear hh t2 TH2
              go_wp2_with (go_at_call 6; refine (num_any _ _).mono ?_; rintro e w' ⟨rfl, rfl⟩)
              generalize hw9 : (w2.setCell ⟨OB + 1, n, none⟩ (.slice none 0 0)) = w9 at *
              generalize hg9 : (g) = g9 at *
              generalize hs9 : (upd s n 0) = s9 at *
              generalize hl9 : (upd l n 0) = l9 at *
              generalize ht9 : (upd t n ⟨none, 0, []⟩) = t9 at *
              clear hw9 hg9 hs9 hl9 ht9
              obtain ⟨q0, _⟩ := TH9.out.cellO n hn3
              obtain ⟨q2, _⟩ := TH9.out.cellR n hn3
              have ES := GD9.out.sum n hn3
              have EL := GD9.out.len n hn3
              have BL := GD9.out.le n hn3
              have HH := TH9.out.hs n hn3
              have OK := TH9.out.ok n hn3
              rw [ES, EL] at HH
              have KA := hide (fun q => (hsum_any _ _ _ (w9.drewN q) (HH.touch (Touch.drewN (Touch.refl (fun _ => False) w9) q) (fun h => h))).mono (show ∀ (e : Ending) (w' : World), e = .returned (.int .u32 ((more 0 (nats (t9 n).xs) : Nat) : Int)) ∧ w9.drewN q = w' → e = .returned (.int .u32 ((more 0 (nats (t9 n).xs) : Nat) : Int)) ∧ w' = w9.drewN q from fun _ _ h => ⟨h.1, h.2.symm⟩))
              have KB := hide (fun q => (hlen_any _ _ _ (w9.drewN q) (HH.touch (Touch.drewN (Touch.refl (fun _ => False) w9) q) (fun h => h))).mono (show ∀ (e : Ending) (w' : World), e = .returned (.int .i64 (((t9 n).xs.length : Nat) : Int)) ∧ w9.drewN q = w' → e = .returned (.int .i64 (((t9 n).xs.length : Nat) : Int)) ∧ w' = w9.drewN q from fun _ _ h => ⟨h.1, h.2.symm⟩))
              have KC := hide (fun q => (rsum_any (t9 n).ao (t9 n).xs (t9 n).cap (w9.drewN q) (OK.seg.touch (Touch.drewN (Touch.refl (fun _ => False) w9) q) (fun _ _ h => h)) OK.in8 OK.len).mono (show ∀ (e : Ending) (w' : World), e = .returned (.int .u32 ((more 0 (nats (t9 n).xs) : Nat) : Int)) ∧ w9.drewN q = w' → e = .returned (.int .u32 ((more 0 (nats (t9 n).xs) : Nat) : Int)) ∧ w' = w9.drewN q from fun _ _ h => ⟨h.1, h.2.symm⟩))
              have TQ := hide (fun q => TH9.out.quiet (Touch.drewN (Touch.refl (fun _ => False) w9) q))
              clear ES EL BL HH OK
              generalize more 0 (nats (t9 n).xs) = S at *
              generalize (t9 n).xs.length = L at *
              generalize (t9 n).ao = ta at *
              generalize (t9 n).cap = tc at *
              generalize g9 n = gn at *
              go_wp2_with fail
              go_quiet (first | (go_at_call 11; exact Calls.quiet_of_same (KA.out _)) | (go_at_call 13; exact Calls.quiet_of_same (KB.out _)) | (go_at_call 12; exact Calls.quiet_of_same (KC.out _)))
              go_wp2_with fail
              go_roundw
              case rel => exact ⟨k + 1, g9, s9, l9, t9, by rw [SW.out], hlt, TQ.out _, GD9.out⟩
              case measure => rw [SW.out]; simp [intOf]; omega
            · by_cases hk4 : kind = 4
              · subst hk4
                clear hk0
                go_wp2_with fail
                refine (copy_any _ _ _ _ (TH1.out.hs m hm3)).mono ?_
                rintro e w2 ⟨g', rfl, lg, hh, t2⟩
                have TH2 := hide (TH1.out.quiet t2)
                obtain ⟨r0, r1⟩ := TH2.out.cellO n hn3
                have TH3 := hide (TH2.out.point hn3 hh (fun i hi => by have := (TH1.out.hs i hi).lt; omega) (Nat.le_trans TH1.out.touch.size lg))
                obtain ⟨r2, r3⟩ := TH3.out.cellR n hn3
                obtain ⟨r4, r5⟩ := TH3.out.cellR m hm3
                have TH9 := hide (TH3.out.text hn3 (t m) (TH3.out.ok m hm3))
                have GD9 : Hid (Gd (upd s n (s m)) (upd l n (l m)) (upd t n (t m)) ((k + 1) * 1048576)) := hide (by
                  rw [HGd.out.sum m hm3, HGd.out.len m hm3]
                  exact (HGd.out.mono (Nat.mul_le_mul_right _ (Nat.le_succ k))).put (t m) (Nat.le_trans (HGd.out.le m hm3) (Nat.mul_le_mul_right _ (Nat.le_succ k))))
                clear hh t2 TH2
                go_wp2_with fail
                generalize hw9 : ((w2.setCell ⟨OB, n, none⟩ (.pointer (some ⟨g', 0, none⟩))).setCell ⟨OB + 1, n, none⟩ (.slice (t m).ao (t m).xs.length (t m).cap)) = w9 at *
                generalize hg9 : (upd g n g') = g9 at *
                generalize hs9 : (upd s n (s m)) = s9 at *
                generalize hl9 : (upd l n (l m)) = l9 at *
                generalize ht9 : (upd t n (t m)) = t9 at *
                clear hw9 hg9 hs9 hl9 ht9
                obtain ⟨q0, _⟩ := TH9.out.cellO n hn3
                obtain ⟨q2, _⟩ := TH9.out.cellR n hn3
                have ES := GD9.out.sum n hn3
                have EL := GD9.out.len n hn3
                have BL := GD9.out.le n hn3
                have HH := TH9.out.hs n hn3
                have OK := TH9.out.ok n hn3
                rw [ES, EL] at HH
                have KA := hide (fun q => (hsum_any _ _ _ (w9.drewN q) (HH.touch (Touch.drewN (Touch.refl (fun _ => False) w9) q) (fun h => h))).mono (show ∀ (e : Ending) (w' : World), e = .returned (.int .u32 ((more 0 (nats (t9 n).xs) : Nat) : Int)) ∧ w9.drewN q = w' → e = .returned (.int .u32 ((more 0 (nats (t9 n).xs) : Nat) : Int)) ∧ w' = w9.drewN q from fun _ _ h => ⟨h.1, h.2.symm⟩))
                have KB := hide (fun q => (hlen_any _ _ _ (w9.drewN q) (HH.touch (Touch.drewN (Touch.refl (fun _ => False) w9) q) (fun h => h))).mono (show ∀ (e : Ending) (w' : World), e = .returned (.int .i64 (((t9 n).xs.length : Nat) : Int)) ∧ w9.drewN q = w' → e = .returned (.int .i64 (((t9 n).xs.length : Nat) : Int)) ∧ w' = w9.drewN q from fun _ _ h => ⟨h.1, h.2.symm⟩))
                have KC := hide (fun q => (rsum_any (t9 n).ao (t9 n).xs (t9 n).cap (w9.drewN q) (OK.seg.touch (Touch.drewN (Touch.refl (fun _ => False) w9) q) (fun _ _ h => h)) OK.in8 OK.len).mono (show ∀ (e : Ending) (w' : World), e = .returned (.int .u32 ((more 0 (nats (t9 n).xs) : Nat) : Int)) ∧ w9.drewN q = w' → e = .returned (.int .u32 ((more 0 (nats (t9 n).xs) : Nat) : Int)) ∧ w' = w9.drewN q from fun _ _ h => ⟨h.1, h.2.symm⟩))
                have TQ := hide (fun q => TH9.out.quiet (Touch.drewN (Touch.refl (fun _ => False) w9) q))
                clear ES EL BL HH OK
                generalize more 0 (nats (t9 n).xs) = S at *
                generalize (t9 n).xs.length = L at *
                generalize (t9 n).ao = ta at *
                generalize (t9 n).cap = tc at *
                generalize g9 n = gn at *
                go_wp2_with fail
                go_quiet (first | (go_at_call 11; exact Calls.quiet_of_same (KA.out _)) | (go_at_call 13; exact Calls.quiet_of_same (KB.out _)) | (go_at_call 12; exact Calls.quiet_of_same (KC.out _)))
                go_wp2_with fail
                go_roundw
                case rel => exact ⟨k + 1, g9, s9, l9, t9, by rw [SW.out], hlt, TQ.out _, GD9.out⟩
                case measure => rw [SW.out]; simp [intOf]; omega
              · by_cases hk5 : kind = 5
                · subst hk5
                  clear hk0
                  go_wp2_with fail
                  refine (new_any _).mono ?_
                  rintro e w2 ⟨rfl, hh, t2⟩
                  rw [HSZ.out] at hh ⊢
                  have TH2 := hide (TH1.out.quiet t2)
                  obtain ⟨r0, r1⟩ := TH2.out.cellO n hn3
                  have TH3 := hide (TH2.out.point hn3 hh (fun i hi => by have := (TH1.out.hs i hi).lt; have := HSZ.out; omega) (by have := TH1.out.touch.size; have := HSZ.out; omega))
                  obtain ⟨r2, r3⟩ := TH3.out.cellR n hn3
                  have TH9 := hide (TH3.out.text hn3 ⟨none, 0, []⟩ nil_ok)
                  have GD9 : Hid (Gd (upd s n 0) (upd l n 0) (upd t n ⟨none, 0, []⟩) ((k + 1) * 1048576)) := hide ((HGd.out.mono (Nat.mul_le_mul_right _ (Nat.le_succ k))).put ⟨none, 0, []⟩ (Nat.zero_le _))
                  clear hh t2 TH2
                  go_wp2_with fail
                  generalize hw9 : ((w2.setCell ⟨OB, n, none⟩ (.pointer (some ⟨wr.heap.size + 1, 0, none⟩))).setCell ⟨OB + 1, n, none⟩ (.slice none 0 0)) = w9 at *
                  generalize hg9 : (upd g n (wr.heap.size + 1)) = g9 at *
                  generalize hs9 : (upd s n 0) = s9 at *
                  generalize hl9 : (upd l n 0) = l9 at *
                  generalize ht9 : (upd t n ⟨none, 0, []⟩) = t9 at *
                  clear hw9 hg9 hs9 hl9 ht9
                  obtain ⟨q0, _⟩ := TH9.out.cellO n hn3
                  obtain ⟨q2, _⟩ := TH9.out.cellR n hn3
                  have ES := GD9.out.sum n hn3
                  have EL := GD9.out.len n hn3
                  have BL := GD9.out.le n hn3
                  have HH := TH9.out.hs n hn3
                  have OK := TH9.out.ok n hn3
                  rw [ES, EL] at HH
                  have KA := hide (fun q => (hsum_any _ _ _ (w9.drewN q) (HH.touch (Touch.drewN (Touch.refl (fun _ => False) w9) q) (fun h => h))).mono (show ∀ (e : Ending) (w' : World), e = .returned (.int .u32 ((more 0 (nats (t9 n).xs) : Nat) : Int)) ∧ w9.drewN q = w' → e = .returned (.int .u32 ((more 0 (nats (t9 n).xs) : Nat) : Int)) ∧ w' = w9.drewN q from fun _ _ h => ⟨h.1, h.2.symm⟩))
                  have KB := hide (fun q => (hlen_any _ _ _ (w9.drewN q) (HH.touch (Touch.drewN (Touch.refl (fun _ => False) w9) q) (fun h => h))).mono (show ∀ (e : Ending) (w' : World), e = .returned (.int .i64 (((t9 n).xs.length : Nat) : Int)) ∧ w9.drewN q = w' → e = .returned (.int .i64 (((t9 n).xs.length : Nat) : Int)) ∧ w' = w9.drewN q from fun _ _ h => ⟨h.1, h.2.symm⟩))
                  have KC := hide (fun q => (rsum_any (t9 n).ao (t9 n).xs (t9 n).cap (w9.drewN q) (OK.seg.touch (Touch.drewN (Touch.refl (fun _ => False) w9) q) (fun _ _ h => h)) OK.in8 OK.len).mono (show ∀ (e : Ending) (w' : World), e = .returned (.int .u32 ((more 0 (nats (t9 n).xs) : Nat) : Int)) ∧ w9.drewN q = w' → e = .returned (.int .u32 ((more 0 (nats (t9 n).xs) : Nat) : Int)) ∧ w' = w9.drewN q from fun _ _ h => ⟨h.1, h.2.symm⟩))
                  have TQ := hide (fun q => TH9.out.quiet (Touch.drewN (Touch.refl (fun _ => False) w9) q))
                  clear ES EL BL HH OK
                  generalize more 0 (nats (t9 n).xs) = S at *
                  generalize (t9 n).xs.length = L at *
                  generalize (t9 n).ao = ta at *
                  generalize (t9 n).cap = tc at *
                  generalize g9 n = gn at *
                  go_wp2_with fail
                  go_quiet (first | (go_at_call 11; exact Calls.quiet_of_same (KA.out _)) | (go_at_call 13; exact Calls.quiet_of_same (KB.out _)) | (go_at_call 12; exact Calls.quiet_of_same (KC.out _)))
                  go_wp2_with fail
                  go_roundw
                  case rel => exact ⟨k + 1, g9, s9, l9, t9, by rw [SW.out], hlt, TQ.out _, GD9.out⟩
                  case measure => rw [SW.out]; simp [intOf]; omega
                · by_cases hk6 : kind = 6
                  · subst hk6
                    clear hk0
                    have ta := (Touch.refl (fun _ => False) (wr.alloc (.cells #[.int .i64 6, .int .i64 fon, .int .i64 fto, .slice ba xs.length bc] 29))).alloc (.cells #[.int .u32 0, .int .i64 0] 38)
                    have TH2 := hide (TH1.out.quiet ta)
                    obtain ⟨r0, r1⟩ := TH2.out.cellO n hn3
                    have hz : Hs ((wr.alloc (.cells #[.int .i64 6, .int .i64 fon, .int .i64 fto, .slice ba xs.length bc] 29)).alloc (.cells #[.int .u32 0, .int .i64 0] 38)) (wr.heap.size + 1) 0 0 := ⟨by rw [← HSZ.out]; exact heap_alloc_last _ _⟩
                    have TH3 := hide (TH2.out.point hn3 hz (fun i hi => by have := (TH1.out.hs i hi).lt; have := HSZ.out; omega) (by have := TH1.out.touch.size; have := HSZ.out; omega))
                    obtain ⟨r2, r3⟩ := TH3.out.cellR n hn3
                    have TH9 := hide (TH3.out.text hn3 ⟨none, 0, []⟩ nil_ok)
                    have GD9 : Hid (Gd (upd s n 0) (upd l n 0) (upd t n ⟨none, 0, []⟩) ((k + 1) * 1048576)) := hide ((HGd.out.mono (Nat.mul_le_mul_right _ (Nat.le_succ k))).put ⟨none, 0, []⟩ (Nat.zero_le _))
                    clear ta TH2 hz
                    go_wp2_with fail
                    generalize hw9 : ((((wr.alloc (.cells #[.int .i64 6, .int .i64 fon, .int .i64 fto, .slice ba xs.length bc] 29)).alloc (.cells #[.int .u32 0, .int .i64 0] 38)).setCell ⟨OB, n, none⟩ (.pointer (some ⟨wr.heap.size + 1, 0, none⟩))).setCell ⟨OB + 1, n, none⟩ (.slice none 0 0)) = w9 at *
                    generalize hg9 : (upd g n (wr.heap.size + 1)) = g9 at *
                    generalize hs9 : (upd s n 0) = s9 at *
                    generalize hl9 : (upd l n 0) = l9 at *
                    generalize ht9 : (upd t n ⟨none, 0, []⟩) = t9 at *
                    clear hw9 hg9 hs9 hl9 ht9
                    obtain ⟨q0, _⟩ := TH9.out.cellO n hn3
                    obtain ⟨q2, _⟩ := TH9.out.cellR n hn3
                    have ES := GD9.out.sum n hn3
                    have EL := GD9.out.len n hn3
                    have BL := GD9.out.le n hn3
                    have HH := TH9.out.hs n hn3
                    have OK := TH9.out.ok n hn3
                    rw [ES, EL] at HH
                    have KA := hide (fun q => (hsum_any _ _ _ (w9.drewN q) (HH.touch (Touch.drewN (Touch.refl (fun _ => False) w9) q) (fun h => h))).mono (show ∀ (e : Ending) (w' : World), e = .returned (.int .u32 ((more 0 (nats (t9 n).xs) : Nat) : Int)) ∧ w9.drewN q = w' → e = .returned (.int .u32 ((more 0 (nats (t9 n).xs) : Nat) : Int)) ∧ w' = w9.drewN q from fun _ _ h => ⟨h.1, h.2.symm⟩))
                    have KB := hide (fun q => (hlen_any _ _ _ (w9.drewN q) (HH.touch (Touch.drewN (Touch.refl (fun _ => False) w9) q) (fun h => h))).mono (show ∀ (e : Ending) (w' : World), e = .returned (.int .i64 (((t9 n).xs.length : Nat) : Int)) ∧ w9.drewN q = w' → e = .returned (.int .i64 (((t9 n).xs.length : Nat) : Int)) ∧ w' = w9.drewN q from fun _ _ h => ⟨h.1, h.2.symm⟩))
                    have KC := hide (fun q => (rsum_any (t9 n).ao (t9 n).xs (t9 n).cap (w9.drewN q) (OK.seg.touch (Touch.drewN (Touch.refl (fun _ => False) w9) q) (fun _ _ h => h)) OK.in8 OK.len).mono (show ∀ (e : Ending) (w' : World), e = .returned (.int .u32 ((more 0 (nats (t9 n).xs) : Nat) : Int)) ∧ w9.drewN q = w' → e = .returned (.int .u32 ((more 0 (nats (t9 n).xs) : Nat) : Int)) ∧ w' = w9.drewN q from fun _ _ h => ⟨h.1, h.2.symm⟩))
                    have TQ := hide (fun q => TH9.out.quiet (Touch.drewN (Touch.refl (fun _ => False) w9) q))
                    clear ES EL BL HH OK
                    generalize more 0 (nats (t9 n).xs) = S at *
                    generalize (t9 n).xs.length = L at *
                    generalize (t9 n).ao = ta at *
                    generalize (t9 n).cap = tc at *
                    generalize g9 n = gn at *
                    go_wp2_with fail
                    go_quiet (first | (go_at_call 11; exact Calls.quiet_of_same (KA.out _)) | (go_at_call 13; exact Calls.quiet_of_same (KB.out _)) | (go_at_call 12; exact Calls.quiet_of_same (KC.out _)))
                    go_wp2_with fail
                    go_roundw
                    case rel => exact ⟨k + 1, g9, s9, l9, t9, by rw [SW.out], hlt, TQ.out _, GD9.out⟩
                    case measure => rw [SW.out]; simp [intOf]; omega
                  · by_cases hd : kind < 0
                    · have y1 : ¬ 0 ≤ kind := by omega
                      have z3 : (kind == 3) = false := by simp [hk3]
                      have z4 : (kind == 4) = false := by simp [hk4]
                      have z5 : (kind == 5) = false := by simp [hk5]
                      have z6 : (kind == 6) = false := by simp [hk6]
                      clear hk3 hk4 hk5 hk6 hk0
                      go_wp2_with fail
                      have TH9 := TH1
                      have GD9 : Hid (Gd s l t ((k + 1) * 1048576)) := hide (HGd.out.mono (Nat.mul_le_mul_right _ (Nat.le_succ k)))
                      generalize hw9 : (wr.alloc (.cells #[.int .i64 kind, .int .i64 fon, .int .i64 fto, .slice ba xs.length bc] 29)) = w9 at *
                      generalize hg9 : (g) = g9 at *
                      generalize hs9 : (s) = s9 at *
                      generalize hl9 : (l) = l9 at *
                      generalize ht9 : (t) = t9 at *
                      clear hw9 hg9 hs9 hl9 ht9
                      obtain ⟨q0, _⟩ := TH9.out.cellO n hn3
                      obtain ⟨q2, _⟩ := TH9.out.cellR n hn3
                      have ES := GD9.out.sum n hn3
                      have EL := GD9.out.len n hn3
                      have BL := GD9.out.le n hn3
                      have HH := TH9.out.hs n hn3
                      have OK := TH9.out.ok n hn3
                      rw [ES, EL] at HH
                      have KA := hide (fun q => (hsum_any _ _ _ (w9.drewN q) (HH.touch (Touch.drewN (Touch.refl (fun _ => False) w9) q) (fun h => h))).mono (show ∀ (e : Ending) (w' : World), e = .returned (.int .u32 ((more 0 (nats (t9 n).xs) : Nat) : Int)) ∧ w9.drewN q = w' → e = .returned (.int .u32 ((more 0 (nats (t9 n).xs) : Nat) : Int)) ∧ w' = w9.drewN q from fun _ _ h => ⟨h.1, h.2.symm⟩))
                      have KB := hide (fun q => (hlen_any _ _ _ (w9.drewN q) (HH.touch (Touch.drewN (Touch.refl (fun _ => False) w9) q) (fun h => h))).mono (show ∀ (e : Ending) (w' : World), e = .returned (.int .i64 (((t9 n).xs.length : Nat) : Int)) ∧ w9.drewN q = w' → e = .returned (.int .i64 (((t9 n).xs.length : Nat) : Int)) ∧ w' = w9.drewN q from fun _ _ h => ⟨h.1, h.2.symm⟩))
                      have KC := hide (fun q => (rsum_any (t9 n).ao (t9 n).xs (t9 n).cap (w9.drewN q) (OK.seg.touch (Touch.drewN (Touch.refl (fun _ => False) w9) q) (fun _ _ h => h)) OK.in8 OK.len).mono (show ∀ (e : Ending) (w' : World), e = .returned (.int .u32 ((more 0 (nats (t9 n).xs) : Nat) : Int)) ∧ w9.drewN q = w' → e = .returned (.int .u32 ((more 0 (nats (t9 n).xs) : Nat) : Int)) ∧ w' = w9.drewN q from fun _ _ h => ⟨h.1, h.2.symm⟩))
                      have TQ := hide (fun q => TH9.out.quiet (Touch.drewN (Touch.refl (fun _ => False) w9) q))
                      clear ES EL BL HH OK
                      generalize more 0 (nats (t9 n).xs) = S at *
                      generalize (t9 n).xs.length = L at *
                      generalize (t9 n).ao = ta at *
                      generalize (t9 n).cap = tc at *
                      generalize g9 n = gn at *
                      go_wp2_with fail
                      go_quiet (first | (go_at_call 11; exact Calls.quiet_of_same (KA.out _)) | (go_at_call 13; exact Calls.quiet_of_same (KB.out _)) | (go_at_call 12; exact Calls.quiet_of_same (KC.out _)))
                      go_wp2_with fail
                      go_roundw
                      case rel => exact ⟨k + 1, g9, s9, l9, t9, by rw [SW.out], hlt, TQ.out _, GD9.out⟩
                      case measure => rw [SW.out]; simp [intOf]; omega
                    · have y1 : 0 ≤ kind := by omega
                      have y2 : ¬ kind ≤ 2 := by omega
                      clear hd
                      have z3 : (kind == 3) = false := by simp [hk3]
                      have z4 : (kind == 4) = false := by simp [hk4]
                      have z5 : (kind == 5) = false := by simp [hk5]
                      have z6 : (kind == 6) = false := by simp [hk6]
                      clear hk3 hk4 hk5 hk6 hk0
                      go_wp2_with fail
                      have TH9 := TH1
                      have GD9 : Hid (Gd s l t ((k + 1) * 1048576)) := hide (HGd.out.mono (Nat.mul_le_mul_right _ (Nat.le_succ k)))
                      generalize hw9 : (wr.alloc (.cells #[.int .i64 kind, .int .i64 fon, .int .i64 fto, .slice ba xs.length bc] 29)) = w9 at *
                      generalize hg9 : (g) = g9 at *
                      generalize hs9 : (s) = s9 at *
                      generalize hl9 : (l) = l9 at *
                      generalize ht9 : (t) = t9 at *
                      clear hw9 hg9 hs9 hl9 ht9
                      obtain ⟨q0, _⟩ := TH9.out.cellO n hn3
                      obtain ⟨q2, _⟩ := TH9.out.cellR n hn3
                      have ES := GD9.out.sum n hn3
                      have EL := GD9.out.len n hn3
                      have BL := GD9.out.le n hn3
                      have HH := TH9.out.hs n hn3
                      have OK := TH9.out.ok n hn3
                      rw [ES, EL] at HH
                      have KA := hide (fun q => (hsum_any _ _ _ (w9.drewN q) (HH.touch (Touch.drewN (Touch.refl (fun _ => False) w9) q) (fun h => h))).mono (show ∀ (e : Ending) (w' : World), e = .returned (.int .u32 ((more 0 (nats (t9 n).xs) : Nat) : Int)) ∧ w9.drewN q = w' → e = .returned (.int .u32 ((more 0 (nats (t9 n).xs) : Nat) : Int)) ∧ w' = w9.drewN q from fun _ _ h => ⟨h.1, h.2.symm⟩))
                      have KB := hide (fun q => (hlen_any _ _ _ (w9.drewN q) (HH.touch (Touch.drewN (Touch.refl (fun _ => False) w9) q) (fun h => h))).mono (show ∀ (e : Ending) (w' : World), e = .returned (.int .i64 (((t9 n).xs.length : Nat) : Int)) ∧ w9.drewN q = w' → e = .returned (.int .i64 (((t9 n).xs.length : Nat) : Int)) ∧ w' = w9.drewN q from fun _ _ h => ⟨h.1, h.2.symm⟩))
                      have KC := hide (fun q => (rsum_any (t9 n).ao (t9 n).xs (t9 n).cap (w9.drewN q) (OK.seg.touch (Touch.drewN (Touch.refl (fun _ => False) w9) q) (fun _ _ h => h)) OK.in8 OK.len).mono (show ∀ (e : Ending) (w' : World), e = .returned (.int .u32 ((more 0 (nats (t9 n).xs) : Nat) : Int)) ∧ w9.drewN q = w' → e = .returned (.int .u32 ((more 0 (nats (t9 n).xs) : Nat) : Int)) ∧ w' = w9.drewN q from fun _ _ h => ⟨h.1, h.2.symm⟩))
                      have TQ := hide (fun q => TH9.out.quiet (Touch.drewN (Touch.refl (fun _ => False) w9) q))
                      clear ES EL BL HH OK
                      generalize more 0 (nats (t9 n).xs) = S at *
                      generalize (t9 n).xs.length = L at *
                      generalize (t9 n).ao = ta at *
                      generalize (t9 n).cap = tc at *
                      generalize g9 n = gn at *
                      go_wp2_with fail
                      go_quiet (first | (go_at_call 11; exact Calls.quiet_of_same (KA.out _)) | (go_at_call 13; exact Calls.quiet_of_same (KB.out _)) | (go_at_call 12; exact Calls.quiet_of_same (KC.out _)))
                      go_wp2_with fail
                      go_roundw
                      case rel => exact ⟨k + 1, g9, s9, l9, t9, by rw [SW.out], hlt, TQ.out _, GD9.out⟩
                      case measure => rw [SW.out]; simp [intOf]; omega
        · have e : k = N := by omega
          subst e
          clear hk hlt
          rename World => wk
          have HTh := hide th
          have HGd := hide gd
          clear th gd
          go_wp2_with fail
          go_loopw [13] (fun i wr => ∃ j : Nat, i = .int .i64 (j : Int) ∧ j ≤ 3 ∧ ∃ q, wr = wk.drewN q) (fun i _ => 3 - (intOf i).toNat)
          case atStart => exact ⟨0, rfl, by omega, 0, rfl⟩
          case round =>
            obtain ⟨n, rfl, hn', q, hq⟩ := hrel
            by_cases hlt : n < 3
            · have hni : (n : Int) < 3 := by omega
              have tq : Touch (fun _ => False) wk wr := by rw [hq]; exact Touch.drewN (Touch.refl _ _) q
              have th := HTh.out.quiet tq
              obtain ⟨q0, _⟩ := th.cellO n hlt
              obtain ⟨q2, _⟩ := th.cellR n hlt
              have HH := th.hs n hlt
              have OK := th.ok n hlt
              rw [HGd.out.sum n hlt] at HH
              have KA := hide (fun q => (hsum_any _ _ _ (wr.drewN q) (HH.touch (Touch.drewN (Touch.refl (fun _ => False) wr) q) (fun h => h))).mono (show ∀ (e : Ending) (w' : World), e = .returned (.int .u32 ((more 0 (nats (t n).xs) : Nat) : Int)) ∧ wr.drewN q = w' → e = .returned (.int .u32 ((more 0 (nats (t n).xs) : Nat) : Int)) ∧ w' = wr.drewN q from fun _ _ h => ⟨h.1, h.2.symm⟩))
              have KC := hide (fun q => (rsum_any (t n).ao (t n).xs (t n).cap (wr.drewN q) (OK.seg.touch (Touch.drewN (Touch.refl (fun _ => False) wr) q) (fun _ _ h => h)) OK.in8 OK.len).mono (show ∀ (e : Ending) (w' : World), e = .returned (.int .u32 ((more 0 (nats (t n).xs) : Nat) : Int)) ∧ wr.drewN q = w' → e = .returned (.int .u32 ((more 0 (nats (t n).xs) : Nat) : Int)) ∧ w' = wr.drewN q from fun _ _ h => ⟨h.1, h.2.symm⟩))
              have HQ := hide hq
              clear HH OK hq tq th
              generalize more 0 (nats (t n).xs) = S at *
              generalize (t n).xs.length = L at *
              generalize (t n).ao = ta at *
              generalize (t n).cap = tc at *
              generalize g n = gn at *
              go_wp2_with fail
              go_quiet (first | (go_at_call 11; exact Calls.quiet_of_same (KA.out _)) | (go_at_call 12; exact Calls.quiet_of_same (KC.out _)))
              go_wp2_with fail
              go_roundw
              case rel => exact ⟨n + 1, by simp, hlt, _, by rw [HQ.out, World.drewN_drewN]⟩
              case measure => simp [intOf]; omega
            · have e : n = 3 := by omega
              subst e
              have T9 : Hid (Touch (fun _ => False) w wr) := hide (by rw [hq]; exact HTh.out.touch.drewN q)
              clear hq hlt hn'
              go_wp2_with (first | (go_at_call 7; refine (write_nil _ _).mono ?_; rintro e w' ⟨rfl, rfl⟩) | (go_at_call 9; refine (reset_nil _).mono ?_; rintro e w' ⟨rfl, rfl⟩) | (go_at_call 11; refine (hsum_nil _).mono ?_; rintro e w' ⟨rfl, rfl⟩) | (go_at_call 13; refine (hlen_nil _).mono ?_; rintro e w' ⟨rfl, rfl⟩) | (go_at_call 10; refine (copy_nil _).mono ?_; rintro e w' ⟨rfl, rfl⟩) | (go_at_call 6; refine (num_any _ _).mono ?_; rintro e w' ⟨rfl, rfl⟩))
              have T10 := (T9.out.alloc (.cells #[.int .u8 1] 5)).alloc (.cells #[.slice (some ⟨wr.heap.size, 0, none⟩) 1 1] 25)
              refine (works_any _ (HT.out.touch T10 (fun h => h))).mono ?_
              rintro e w11 ⟨rfl, t11⟩
              go_wp2_with fail
              go_ret
              exact ⟨rfl, T10.trans t11 (fun _ _ h => h)⟩

end Go.Proofs.YtmmeglpglaogeaaDoor
