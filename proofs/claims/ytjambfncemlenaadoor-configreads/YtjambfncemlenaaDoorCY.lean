/- The kit's: bytes lent, and kept (LendBytes, Bytes, KeptBytes). -/
import Derived.Test.YtjambfncemlenaaDoorCD
import Derived.Test.YtjambfncemlenaaDoorMW0
namespace Go.Proofs.YtjambfncemlenaaDoor
open Go.RowKit
open Cg

/-- The marks behind lent bytes. -/
abbrev mkB : List Int := [165, 166, 167]
theorem mkB_next {i : Nat} (h : i < 3) : mkB.take (i + 1) = mkB.take i ++ [165 + (i : Int)] := by
  rcases (by omega : i = 0 ∨ i = 1 ∨ i = 2) with rfl | rfl | rfl <;> rfl
/-- Bytes lent: a row of one's own, the marks behind it. -/
def LentB (w : World) (base g c : Nat) (L : List Int) : Prop := encB.Own 5 w base (.slice (some ⟨g, 0, none⟩) (L ++ mkB).length c) (L ++ mkB)
theorem LentB.calm {w w' : World} {base g c : Nat} {L : List Int} (h : LentB w base g c L) (ht : Calm w w') : LentB w' base g c L := Rc.Own.calm h ht
theorem LentB.mem {w : World} {base g c : Nat} {L : List Int} (h : LentB w base g c L) : encB.Mem w (some ⟨g, 0, none⟩) L ∧ L.length + 3 ≤ c ∧ base ≤ g ∧ ∀ i, i < 3 → w.cell? ⟨g, L.length + i, none⟩ = some (.int .u8 (165 + (i : Int))) := by
  obtain ⟨-, h2, h3, -, -, h6⟩ := Rc.Own.mem h
  have hm := Rc.Mem.take h2 L.length
  rw [List.take_left' rfl] at hm
  refine ⟨hm, by simpa using h3, (h6 _ rfl).2.2.1, fun i hi => ?_⟩
  obtain ⟨b, off, e, hc⟩ := by_at h2 (L.length + i) (by simp; omega)
  injection e with e
  injection e with e1 e2
  subst e1 e2
  have hg : (L ++ mkB).getD (L.length + i) 0 = 165 + (i : Int) := by
    rw [List.getD_eq_getElem?_getD, List.getElem?_append_right (by omega), Nat.add_sub_cancel_left]
    rcases (by omega : i = 0 ∨ i = 1 ∨ i = 2) with rfl | rfl | rfl <;> rfl
  rw [hg] at hc
  rw [Nat.zero_add] at hc
  exact hc

/-- One byte more. -/
theorem by_appY {w : World} {base : Nat} {ao : Option Addr} {cap : Nat} {A : List Int} (b : Int) (h : encB.Own 5 w base (.slice ao A.length cap) A) (hs : base ≤ w.heap.size) (hn : A.length ≤ 190000000000000) :
    ∃ a2 p2 w4, (Builtin.append_ #[34, 34] 34 #[.slice ao A.length cap, .slice (some ⟨w.heap.size, 0, none⟩) 1 1]).run Tryd.prog (w.alloc (.cells #[.int .u8 b] 5)) = .ok (.slice a2 (A.length + 1) p2) w4 ∧
      encB.Own 5 w4 base (.slice a2 (A ++ [b]).length p2) (A ++ [b]) ∧ Touch (fun d => (Value.slice ao A.length cap).ownBlock = some d) w w4 := by
  obtain ⟨i0, hi, hz, hsz, hby⟩ := Rc.info_parts infoByte
  have own := Rc.Own.calm h ((Touch.refl (fun _ => False) w).alloc (.cells #[.int .u8 b] 5))
  have hs1 := al_size w (.cells #[.int .u8 b] 5)
  obtain ⟨a2, p2, w4, hr, ow, t2, -⟩ := Rc.Own.appw (E := encB) (ty := 34) Tryd.underlying34 hi hz hsz hby rfl own (some ⟨w.heap.size, 0, none⟩) 1 [b] (Rc.Mem.new w [b] 5) (fun h => (nomatch h)) (by simp; unfold maxLen; omega) (by simp; omega) (by omega) (by omega)
  have e3 : (A ++ [b]).length = A.length + 1 := by simp
  refine ⟨a2, p2, w4, by rw [← e3]; exact hr, ow, ?_⟩
  exact Touch.trans (((Touch.refl (fun _ => False) w).alloc _).mono fun _ _ h => h.elim) t2 fun _ _ h => h

set_option maxRecDepth 100000 in
set_option maxHeartbeats 2000000 in
theorem lendBytes_any (b : List Int) (ao : Option Addr) (cap : Nat) (w : World) (hs : encB.Sl w ao cap b) (hn : b.length ≤ 140737488351240) :
    Calls Tryd.prog 13 #[.slice ao b.length cap] w fun e w' => ∃ g c, e = .returned (.slice (some ⟨g, 0, none⟩) b.length c) ∧ LentB w' w.heap.size g c b ∧ Calm w w' := by
  obtain ⟨i0, hi, hz, hsz, hby⟩ := Rc.info_parts infoByte
  have T0 := (Touch.refl (fun _ => False) w).alloc (.cells #[] 5)
  have own : encB.Own 5 (w.alloc (.cells #[] 5)) w.heap.size (.slice (some ⟨w.heap.size, 0, none⟩) 0 0) [] := World.ownsRow_lit w #[] 0 (by omega) (by unfold maxLen; omega) (by simp)
  obtain ⟨a1, p1, w3, hr, ow, t1, -⟩ := Rc.Own.appw (E := encB) (ty := 34) Tryd.underlying34 hi hz hsz hby rfl own ao cap b (Rc.Mem.calm hs.mem T0) hs.nil (by simp; unfold maxLen; omega) (by simp; omega) (by omega) (by rw [al_size]; omega)
  rw [List.nil_append] at hr ow
  have T3 : Hid (Calm w w3) := hide (own_calm own t1 T0 (Nat.le_refl _))
  have HR := hide hr
  have OW := hide ow
  obtain ⟨n, hN⟩ : ∃ n, n = b.length := ⟨_, rfl⟩
  rw [← hN] at HR OW hn ⊢
  have Hi := hide hi
  have HN := hide hN
  have hbn : b.length ≤ 140737488351240 := by rw [← hN]; exact hn
  have HBN := hide hbn
  clear hbn hN
  clear hs own t1 T0 hr ow hz hsz hby hi
  go_enter Tryd.func13, Tryd.ntmps13
  go_wp2_with (at_builtin; refine Rc.wpList_appR rfl (.tmp 5) (.tmp 6) 34 34 rfl _ _ _ rfl rfl HR.out ?_)
  go_loopw [3, 4] (fun s3 s4 wr => ∃ (i m : Nat) (a2 : Option Addr) (c2 : Nat), s3 = .slice a2 m c2 ∧ s4 = .int .i64 (i : Int) ∧ i ≤ 3 ∧ m = (b ++ mkB.take i).length ∧ encB.Own 5 wr w.heap.size (.slice a2 m c2) (b ++ mkB.take i) ∧ Calm w wr) (fun _ s4 _ => 3 - (intOf s4).toNat)
  case atStart => exact ⟨0, n, a1, p1, rfl, rfl, by omega, by simp [HN.out], by simpa using OW.out, T3.out⟩
  case round =>
    obtain ⟨i, m, a2, c2, rfl, rfl, hi3, hm, OE, TE⟩ := hrel
    clear OW HR T3
    by_cases hlt : i < 3
    · have hltz : (i : Int) < 3 := by omega
      have hlen : (b ++ mkB.take i).length ≤ b.length + 3 := by rw [List.length_append, List.length_take]; simp; omega
      rw [hm] at OE
      obtain ⟨a4, p4, w4, hr, ow, t2⟩ := by_appY (165 + (i : Int)) OE TE.size (by have := HBN.out; omega)
      rw [List.append_assoc, ← mkB_next hlt] at ow
      have e1 : (b ++ mkB.take (i + 1)).length = m + 1 := by rw [mkB_next hlt, ← List.append_assoc, List.length_append, ← hm]; rfl
      rw [e1] at ow
      rw [← hm] at hr
      have T4 : Hid (Calm w w4) := hide (own_calm OE t2 TE (Nat.le_refl _))
      have OW := hide ow
      have HR := hide hr
      have E1 := hide e1
      have q1 : IntKind.u8.wrap (i : Int) = (i : Int) := by rw [IntKind.wrap_u8]; omega
      have q2 : IntKind.u8.wrap (165 + (i : Int)) = 165 + (i : Int) := by rw [IntKind.wrap_u8]; omega
      clear OE TE ow hr t2 e1 hm hlen
      go_wp2_with (at_builtin; refine Rc.wpList_appR rfl (.tmp 12) (.tmp 16) 34 34 rfl _ _ _ rfl rfl HR.out ?_)
      go_roundw
      case rel => exact ⟨i + 1, m + 1, a4, p4, rfl, by go_num, by omega, E1.out.symm, OW.out, T4.out⟩
      case measure => simp [intOf]; omega
    · have hltz : ¬ (i : Int) < 3 := by omega
      obtain rfl : i = 3 := by omega
      have e3 : mkB.take 3 = mkB := rfl
      rw [e3] at hm OE
      have hg : ∃ g, a2 = some ⟨g, 0, none⟩ := by
        obtain ⟨-, h2, -, -, -, h6⟩ := Rc.Own.mem OE
        obtain ⟨b', off, e, -⟩ := Rc.Mem.at h2 b.length (by simp)
        have := (h6 _ e).2.1
        simp only at this
        subst this
        exact ⟨b', e⟩
      obtain ⟨g, rfl⟩ := hg
      have hc1 : m ≤ c2 := by have := (Rc.Own.mem OE).2.2.1; rw [hm]; exact this
      have hln : n ≤ m := by rw [hm, HN.out, List.length_append]; omega
      have hcut := fun W => cut_to (g := g) (n := m) (cap := c2) (k := n) Tryd.underlying34 elemByte Hi.out (by omega) W
      rw [hm] at OE
      have HF : Hid (∃ g' c, Ending.returned (.slice (some ⟨g, 0, none⟩) n c2) = .returned (.slice (some ⟨g', 0, none⟩) n c) ∧ LentB wr w.heap.size g' c b ∧ Calm w wr) := hide ⟨g, c2, rfl, OE, TE⟩
      clear OE TE hm
      go_wp2_with fail
      go_ret
      exact HF.out

set_option maxRecDepth 100000 in
theorem kitBytes_any (b : List Int) (ao bo : Option Addr) (ca cb : Nat) (w : World) (ha : encB.Mem w ao b) (hb : encB.Mem w bo b) :
    Calls Tryd.prog 38 #[.slice ao b.length ca, .slice bo b.length cb] w fun e w' => e = .returned (.bool true) ∧ Calm w w' := by
  have c1 := fun W (hW : Calm w W) => conv_mem (Rc.Mem.calm ha hW) ca
  have c2 := fun W (hW : Calm w W) => conv_mem (Rc.Mem.calm hb hW) cb
  have d1 := c1 w (Touch.refl _ _)
  have d2 := c2 w (Touch.refl _ _)
  clear c1 c2 ha hb
  generalize strOfNums b = s at *
  generalize b.length = n at *
  go_enter Tryd.func38, Tryd.ntmps38
  go_wp2_with fail
  go_ret
  exact ⟨rfl, Touch.refl _ _⟩

set_option maxRecDepth 100000 in
set_option maxHeartbeats 2000000 in
theorem keptBytes_any (b : List Int) (base g c : Nat) (bo : Option Addr) (cb : Nat) (w : World) (hl : LentB w base g c b) (hb : encB.Mem w bo b) (hn : b.length ≤ 140737488351240) :
    Calls Tryd.prog 16 #[.slice (some ⟨g, 0, none⟩) b.length c, .slice bo b.length cb] w fun e w' => e = .returned (.bool true) ∧ Calm w w' := by
  obtain ⟨m1, m2, -, -⟩ := LentB.mem hl
  have HK : Hid (∀ W, Calm w W → ∀ i, i < 3 → W.cell? ⟨g, b.length + i, none⟩ = some (.int .u8 (165 + (i : Int)))) := hide fun W hW => (LentB.mem (hl.calm hW)).2.2.2
  have CS := hide (kitBytes_any b (some ⟨g, 0, none⟩) bo c cb w m1 hb)
  obtain ⟨i0, hi, -, -, -⟩ := Rc.info_parts infoByte
  have hcut : ∀ W, (Instr.slice 34 (.slice (some ⟨g, 0, none⟩) b.length c) none (some (.int .i64 ((b.length : Int) + 3))) none).run Tryd.prog W = .ok (.slice (some ⟨g, 0, none⟩) (b.length + 3) c) W := fun W => cut_to (k := b.length + 3) Tryd.underlying34 elemByte hi m2 W
  clear hl hb m1 m2 hi
  generalize b.length = n at *
  go_enter Tryd.func16, Tryd.ntmps16
  go_wp2_with fail
  refine CS.out.mono ?_
  rintro e w1 ⟨rfl, T1⟩
  have TL := hide T1
  clear T1 CS
  go_wp2_with fail
  clear hcut
  go_loopw [6] (fun s6 wr => ∃ i : Nat, s6 = .int .i64 (i : Int) ∧ i ≤ 3 ∧ wr = w1) (fun s6 _ => 3 - (intOf s6).toNat)
  case atStart => exact ⟨0, rfl, by omega, rfl⟩
  case round =>
    obtain ⟨i, rfl, hi, rfl⟩ := hrel
    by_cases hlt : i < 3
    · have hltz : (i : Int) < 3 := by omega
      obtain ⟨q, hq⟩ : ∃ q, q = n + i := ⟨_, rfl⟩
      have hq1 : (n : Int) + (i : Int) = (q : Int) := by omega
      have hq2 : (q : Int) < (n : Int) + 3 := by omega
      have hq3 : IntKind.i64.wrap (q : Int) = (q : Int) := by rw [IntKind.wrap_i64]; omega
      have cq := HK.out _ TL.out i hlt
      rw [← hq] at cq
      have q1 : IntKind.u8.wrap (i : Int) = (i : Int) := by rw [IntKind.wrap_u8]; omega
      have q2 : IntKind.u8.wrap (165 + (i : Int)) = 165 + (i : Int) := by rw [IntKind.wrap_u8]; omega
      clear hq
      go_wp2_with fail
      go_roundw
      case rel => exact ⟨i + 1, by go_num, by omega, by first | rfl | trivial⟩
      case measure => simp [intOf]; omega
    · have hltz : ¬ (i : Int) < 3 := by omega
      go_wp2_with fail
      go_ret
      exact ⟨rfl, TL.out⟩

end Go.Proofs.YtjambfncemlenaaDoor
