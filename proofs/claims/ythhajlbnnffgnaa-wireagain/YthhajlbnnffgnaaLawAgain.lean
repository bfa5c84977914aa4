/- For every text of bytes b and every kind the Go law WireAgain returns true and leaves b and all memory that was there as it was: what wire's reader has read as a number, a text, a rising list is written again with just the bytes that were read; what it has refused it has not read. No condition. -/
import Derived.Test.YthhajlbnnffgnaaRows
import Derived.Test.YthhajlbnnffgnaaLent
import Derived.ProofKit
import Derived.OpenShut
import Derived.SizedLaws
namespace Go.Proofs.Ythhajlbnnffgnaa
open Go.ChangeShapes Go.WideShapes Go.ChangeAt Go.RowKit

theorem kind_mod (k : Int) : ((k.tmod 3 + 3).tmod 3 = 0) ∨ ((k.tmod 3 + 3).tmod 3 = 1) ∨ ((k.tmod 3 + 3).tmod 3 = 2) := by
  have h1 := Int.tmod_lt_of_pos k (show (0 : Int) < 3 by decide)
  have h2 := Int.lt_tmod_of_pos k (show (0 : Int) < 3 by decide)
  have h3 : (k.tmod 3 + 3).tmod 3 = (k.tmod 3 + 3) % 3 := Int.tmod_eq_emod_of_nonneg (by omega)
  omega

set_option maxRecDepth 100000 in
set_option maxHeartbeats 1000000 in
theorem again_walk (ao : Option Addr) (bs : List Int) (cap : Nat) (kind : Int) (w : World) (hs : Seg w .u8 ao bs) (h8 : In8 bs) (hb : bs.length ≤ 140737488351232) (hc : bs.length ≤ cap) (hk0 : -9223372036854775808 ≤ kind) (hk1 : kind ≤ 9223372036854775807) :
    Calls Try.prog 6 #[.slice ao bs.length cap, .int .i64 kind] w fun e w' => e = .returned (.bool true) ∧ Below w.heap.size w w' := by
  have HK0 := hide hk0
  have HK1 := hide hk1
  clear hk0 hk1
  go_enter Try.func6, Try.ntmps6
  go_wp2_with fail
  refine (lent_any ao bs cap w hs hb).mono ?_
  rintro r w1 ⟨g1, c1, rfl, hg1, hr1, ht1⟩
  go_wp2_with fail
  refine (newReader_any (some ⟨g1, 0, none⟩) bs c1 w1 (Seg.of_row hr1).prefix hb).mono ?_
  rintro r w2 ⟨rb, rc, rfl, hrb, hrd2, ht2⟩
  go_wp2_with fail
  refine (newWriter_any w2).mono ?_
  rintro r w3 ⟨rfl, hw3, ht3, hl3⟩
  go_wp2_with fail
  refine (known_any w3).mono ?_
  rintro r w4 ⟨rfl, ht4⟩
  have T4 : Touch (fun _ => False) w w4 := ((ht1.trans ht2 (fun _ _ h => h)).trans ht3 (fun _ _ h => h)).trans ht4 (fun _ _ h => h)
  have hrd4 := (hrd2.touch ht3 (fun h => h) (fun _ _ h => h)).touch ht4 (fun h => h) (fun _ _ h => h)
  have hw4 := hw3.touch ht4 (fun h => h) (fun _ _ h => h)
  have hrbn : w.heap.size ≤ rb := by have := ht1.size; omega
  have hpb : w.heap.size ≤ w2.heap.size := Nat.le_trans ht1.size ht2.size
  have hrp : rb ≠ w2.heap.size := fun e => by have := hrd2.lt; omega
  have hg2 : w.heap.size ≤ w1.heap.size := ht1.size
  have hgp : w1.heap.size < w2.heap.size := by have := hrd2.lt; omega
  obtain ⟨pb, hpbe⟩ : ∃ pb, w2.heap.size = pb := ⟨_, rfl⟩
  rw [hpbe] at hw4 hpb hrp hgp
  rw [hpbe]
  clear hr1 ht1 hrd2 ht2 hw3 ht3 hl3 ht4 hpbe hrb hg1
  go_wp2_with fail
  · refine (number_from rb _ rc bs w4 hrd4 h8 hb).mono ?_
    rintro r w5 (⟨e, he, rfl, hrd5, ht5⟩ | ⟨x, n, hx, hf, hn, rfl, hrd5, ht5⟩)
    · have t : ((e : Int) == 0) = false := by simp; omega
      have hw5 := hw4.touch ht5 (fun e => hrp e.symm) (fun g hg _ => by cases hg)
      have T5 : Touch (fun _ => False) w w5 := T4.trans ht5 (fun k hk e => by omega)
      clear T4 hrd4 hw4 ht5 hs h8 hb hc
      go_wp2_with (go_at_call 24; refine (num_any _ _).mono ?_; rintro e w' ⟨rfl, rfl⟩)
      refine (place_any rb _ rc bs 0 w5 hrd5).mono ?_
      rintro r w' ⟨rfl, hq⟩
      obtain rfl := hq.symm
      go_wp2_with fail
      refine (len_any pb _ [] w5 hw5).mono ?_
      rintro r w' ⟨rfl, hq2⟩
      obtain rfl := hq2.symm
      go_wp2_with fail
      go_ret
      exact ⟨rfl, T5.below (fun _ _ h => h)⟩
    · have hw5 := hw4.touch ht5 (fun e => hrp e.symm) (fun g hg _ => by cases hg)
      have T5 : Touch (fun _ => False) w w5 := T4.trans ht5 (fun k hk e => by omega)
      have HX := hide hx
      clear hx
      clear T4 hrd4 hw4
      go_wp2_with (go_at_call 24; refine (num_any _ _).mono ?_; rintro e w' ⟨rfl, rfl⟩)
      refine (wNumber_any pb _ [] x w5 HX.out hw5 (by simp)).mono ?_
      rintro r w6 ⟨rfl, v6, hw6, ho6⟩
      have hrd6 := hrd5.touch ho6.touch (fun h => by rcases h with h | h; exact hrp h; cases h) (fun g hg h => by
        simp [Value.ownBlock] at hg
        rcases h with h | h
        · omega
        · cases h)
      have T6 : Touch (fun _ => False) w w6 := T5.trans ho6.touch (fun k hk h => by
        rcases h with h | h
        · omega
        · cases h)
      rw [List.nil_append, hf] at hw6
      obtain ⟨ys, hys⟩ : ∃ ys, bs.take n = ys := ⟨_, rfl⟩
      have hy8 : In8 ys := fun y hy => h8 y (by rw [← hys] at hy; exact List.mem_of_mem_take hy)
      have hyl : ys.length ≤ 140737488351232 := by rw [← hys]; simp; omega
      obtain ⟨A, c, hsl, hsA⟩ := slice_to hs hc (n) (by omega) ys hys
      rw [hys] at hw6
      clear T5 hw5 ho6 hys hrd5 ht5
      go_wp2_with (go_at_call 24; refine (num_any _ _).mono ?_; rintro e w' ⟨rfl, rfl⟩)
      refine (bytes_any pb v6 ys w6 hw6 hyl).mono ?_
      rintro r w7 ⟨n7, c7, rfl, hr7, ht7, hl7⟩
      have hn7 := hr7.len
      subst hn7
      have hrd7 := hrd6.touch ht7 (fun h => h) (fun _ _ h => h)
      have T7 := T6.trans ht7 (fun _ _ h => h)
      clear T6 hrd6 hw6 ht7 hl7
      go_wp2_with fail
      refine (place_any rb _ rc bs (n) w7 hrd7).mono ?_
      rintro r w' ⟨rfl, hq⟩
      obtain rfl := hq.symm
      go_wp2_with fail
      refine (same_any _ A ys ys c7 c w7 (Seg.of_row hr7) (hsA.touch T7 (fun _ _ h => h)) hy8 hy8).mono ?_
      rintro r w' ⟨b, rfl, hbb, hq2⟩
      obtain rfl := hq2.symm
      obtain rfl : b = true := hbb.2 rfl
      clear hbb
      go_wp2_with fail
      go_ret
      exact ⟨rfl, T7.below (fun _ _ h => h)⟩
  · refine (text_from rb _ rc bs w4 hrd4 h8 hb).mono ?_
    rintro r w5 (⟨e, he, rfl, hrd5, ht5⟩ | ⟨x, n, hsc, hx, hn, rfl, hrd5, ht5⟩)
    · have t : ((e : Int) == 0) = false := by simp; omega
      have hw5 := hw4.touch ht5 (fun e => hrp e.symm) (fun g hg _ => by cases hg)
      have T5 : Touch (fun _ => False) w w5 := T4.trans ht5 (fun k hk e => by omega)
      clear T4 hrd4 hw4 ht5 hs h8 hb hc
      go_wp2_with (go_at_call 24; refine (num_any _ _).mono ?_; rintro e w' ⟨rfl, rfl⟩)
      refine (place_any rb _ rc bs 0 w5 hrd5).mono ?_
      rintro r w' ⟨rfl, hq⟩
      obtain rfl := hq.symm
      go_wp2_with fail
      refine (len_any pb _ [] w5 hw5).mono ?_
      rintro r w' ⟨rfl, hq2⟩
      obtain rfl := hq2.symm
      go_wp2_with fail
      go_ret
      exact ⟨rfl, T5.below (fun _ _ h => h)⟩
    · have hw5 := hw4.touch ht5 (fun e => hrp e.symm) (fun g hg _ => by cases hg)
      have T5 : Touch (fun _ => False) w w5 := T4.trans ht5 (fun k hk e => by omega)
      obtain ⟨st, hst⟩ : ∃ st, strOfNums ((bs.drop n).take x) = st := ⟨_, rfl⟩
      have hzz : st.size = x := by rw [← hst, strOfNums_size]; simp; omega
      have hf : Hid (numb st.size ++ bytesOf st = bs.take (n + x)) := by
        show _ = _
        rw [hzz, ← hst, bytesOf_str _ (fun y hy => h8 y (List.mem_of_mem_drop (List.mem_of_mem_take hy))), scan_form h8 hsc]
        have := take_more bs 0 n x (by omega)
        rw [List.drop_zero, Nat.sub_zero, Nat.sub_zero] at this
        exact this
      obtain ⟨q, hqe⟩ : ∃ q, n + x = q := ⟨_, rfl⟩
      rw [hqe] at hf hrd5 hn
      rw [hst]
      clear hst hsc hqe
      clear T4 hrd4 hw4
      go_wp2_with (go_at_call 24; refine (num_any _ _).mono ?_; rintro e w' ⟨rfl, rfl⟩)
      refine (wText_any pb _ [] st w5 (by simp; omega) hw5).mono ?_
      rintro r w6 ⟨rfl, v6, hw6, ho6⟩
      have hrd6 := hrd5.touch ho6.touch (fun h => by rcases h with h | h; exact hrp h; cases h) (fun g hg h => by
        simp [Value.ownBlock] at hg
        rcases h with h | h
        · omega
        · cases h)
      have T6 : Touch (fun _ => False) w w6 := T5.trans ho6.touch (fun k hk h => by
        rcases h with h | h
        · omega
        · cases h)
      rw [List.nil_append, hf.out] at hw6
      obtain ⟨ys, hys⟩ : ∃ ys, bs.take q = ys := ⟨_, rfl⟩
      have hy8 : In8 ys := fun y hy => h8 y (by rw [← hys] at hy; exact List.mem_of_mem_take hy)
      have hyl : ys.length ≤ 140737488351232 := by rw [← hys]; simp; omega
      obtain ⟨A, c, hsl, hsA⟩ := slice_to hs hc q hn ys hys
      rw [hys] at hw6
      clear T5 hw5 ho6 hys hrd5 ht5
      go_wp2_with (go_at_call 24; refine (num_any _ _).mono ?_; rintro e w' ⟨rfl, rfl⟩)
      refine (bytes_any pb v6 ys w6 hw6 hyl).mono ?_
      rintro r w7 ⟨n7, c7, rfl, hr7, ht7, hl7⟩
      have hn7 := hr7.len
      subst hn7
      have hrd7 := hrd6.touch ht7 (fun h => h) (fun _ _ h => h)
      have T7 := T6.trans ht7 (fun _ _ h => h)
      clear T6 hrd6 hw6 ht7 hl7
      go_wp2_with fail
      refine (place_any rb _ rc bs q w7 hrd7).mono ?_
      rintro r w' ⟨rfl, hq⟩
      obtain rfl := hq.symm
      go_wp2_with fail
      refine (same_any _ A ys ys c7 c w7 (Seg.of_row hr7) (hsA.touch T7 (fun _ _ h => h)) hy8 hy8).mono ?_
      rintro r w' ⟨b, rfl, hbb, hq2⟩
      obtain rfl := hq2.symm
      obtain rfl : b = true := hbb.2 rfl
      clear hbb
      go_wp2_with fail
      go_ret
      exact ⟨rfl, T7.below (fun _ _ h => h)⟩
  · refine (rising_from rb _ rc bs w4 hrd4 h8 hb).mono ?_
    rintro r w5 (⟨e, he, rfl, hrd5, ht5⟩ | ⟨l, n, g, m, c5, hll, h64, hup, hf, hn, rfl, hg5, hrow5, hrd5, ht5⟩)
    · have t : ((e : Int) == 0) = false := by simp; omega
      have hw5 := hw4.touch ht5 (fun e => hrp e.symm) (fun g hg _ => by cases hg)
      have T5 : Touch (fun _ => False) w w5 := T4.trans ht5 (fun k hk e => by omega)
      clear T4 hrd4 hw4 ht5 hs h8 hb hc
      go_wp2_with (go_at_call 24; refine (num_any _ _).mono ?_; rintro e w' ⟨rfl, rfl⟩)
      refine (place_any rb _ rc bs 0 w5 hrd5).mono ?_
      rintro r w' ⟨rfl, hq⟩
      obtain rfl := hq.symm
      go_wp2_with fail
      refine (len_any pb _ [] w5 hw5).mono ?_
      rintro r w' ⟨rfl, hq2⟩
      obtain rfl := hq2.symm
      go_wp2_with fail
      go_ret
      exact ⟨rfl, T5.below (fun _ _ h => h)⟩
    · have hw5 := hw4.touch ht5 (fun e => hrp e.symm) (fun g hg _ => by cases hg)
      have T5 : Touch (fun _ => False) w w5 := T4.trans ht5 (fun k hk e => by omega)
      have H64 := hide h64
      have HUP := hide hup
      have hf := hide hf
      have hml := hrow5.len
      subst hml
      clear h64 hup
      clear T4 hrd4 hw4
      go_wp2_with (go_at_call 24; refine (num_any _ _).mono ?_; rintro e w' ⟨rfl, rfl⟩)
      refine (wRising_yes pb _ [] (some ⟨g, 0, none⟩) l c5 w5 (Seg.of_row hrow5) (by simp; omega) H64.out HUP.out (fun a ha h => by cases h) hw5).mono ?_
      rintro r w6 ⟨rfl, v6, hw6, ho6⟩
      have hrd6 := hrd5.touch ho6.touch (fun h => by rcases h with h | h; exact hrp h; cases h) (fun g hg h => by
        simp [Value.ownBlock] at hg
        rcases h with h | h
        · omega
        · cases h)
      have T6 : Touch (fun _ => False) w w6 := T5.trans ho6.touch (fun k hk h => by
        rcases h with h | h
        · omega
        · cases h)
      rw [List.nil_append, hf.out] at hw6
      obtain ⟨ys, hys⟩ : ∃ ys, bs.take n = ys := ⟨_, rfl⟩
      have hy8 : In8 ys := fun y hy => h8 y (by rw [← hys] at hy; exact List.mem_of_mem_take hy)
      have hyl : ys.length ≤ 140737488351232 := by rw [← hys]; simp; omega
      obtain ⟨A, c, hsl, hsA⟩ := slice_to hs hc (n) (by omega) ys hys
      rw [hys] at hw6
      clear T5 hw5 ho6 hys hrd5 ht5
      go_wp2_with (go_at_call 24; refine (num_any _ _).mono ?_; rintro e w' ⟨rfl, rfl⟩)
      refine (bytes_any pb v6 ys w6 hw6 hyl).mono ?_
      rintro r w7 ⟨n7, c7, rfl, hr7, ht7, hl7⟩
      have hn7 := hr7.len
      subst hn7
      have hrd7 := hrd6.touch ht7 (fun h => h) (fun _ _ h => h)
      have T7 := T6.trans ht7 (fun _ _ h => h)
      clear T6 hrd6 hw6 ht7 hl7
      go_wp2_with fail
      refine (place_any rb _ rc bs (n) w7 hrd7).mono ?_
      rintro r w' ⟨rfl, hq⟩
      obtain rfl := hq.symm
      go_wp2_with fail
      refine (same_any _ A ys ys c7 c w7 (Seg.of_row hr7) (hsA.touch T7 (fun _ _ h => h)) hy8 hy8).mono ?_
      rintro r w' ⟨b, rfl, hbb, hq2⟩
      obtain rfl := hq2.symm
      obtain rfl : b = true := hbb.2 rfl
      clear hbb
      go_wp2_with fail
      go_ret
      exact ⟨rfl, T7.below (fun _ _ h => h)⟩

theorem Try.ownAgain : ownKnob Try.prog.godebug = none := by kernel_rfl
theorem Try.laidAgain : laidOutB Try.prog = true := by kernel_rfl
theorem Try.bytes5 : Try.prog.bytesOf 5 = 1 := by kernel_rfl

/-- A slice of bytes that came in, as a segment. -/
theorem seg_arg {W : World} {x : Addr} {len : Nat} {zs : List Int} (hcell : ∀ i, i < zs.length → W.cell? (x.add i) = some (.int .u8 (zs.getD i 0))) :
    Seg W .u8 (some x) (zs.take len) := by
  refine ⟨fun e => (nomatch e), fun y hy hne => ?_, fun y hy j hj => ?_⟩
  · injection hy with hy
    subst hy
    have hz : 0 < zs.length := by
      rcases Nat.eq_zero_or_pos zs.length with h | h
      · exact absurd (by rw [List.eq_nil_of_length_eq_zero h]; simp) hne
      · exact h
    obtain ⟨b, off, rfl, _⟩ := ints_at hcell hz
    rfl
  · injection hy with hy
    subst hy
    have hj' : j < len ∧ j < zs.length := by simpa [List.length_take, Nat.lt_min] using hj
    rw [hcell j hj'.2, List.getD_eq_getElem?_getD, List.getElem?_eq_getElem hj'.2]
    simp [List.getElem_take]

set_option maxRecDepth 100000 in
theorem again_lifted (os : Os) (started : os.Started) (H : Type) (enc : TypeId × Value → H) :
    ReturnsInHanded {} Try.checked os 6 .any (Rows.wireAgainSpec.pre6 enc Try.prog Try.f6 Rows.wireAgainRow.domain false) (Rows.wireAgainSpec.post enc Try.prog Try.f6 false true false false) := by
  refine returnsInHanded_of_change_sized (C := Try.checked) Try.ownAgain started (by kernel_rfl) Try.func6
    (ChangeSpec.witness6 (enc := enc) (C := Try.checked) false ⟨#[], #[.slice none 0 0, .int .i64 0], []⟩ 8 (by kernel_rfl) (by kernel_rfl) (by kernel_rfl) (by kernel_rfl)) ?_
  intro W base args ds gs before hval0 hW hcnd hsz0 _
  have hval : ∀ (j : Nat) t v, Try.f6.params[j]? = some t → args[j]? = some v → Value.okWide Try.prog W .any base t v := hval0
  have hsz : (DataW.weightsEach Try.prog (Try.f6.params.toList ++ Rows.wireAgainSpec.plain.varTypes Try.prog) (ds ++ gs)).all (· ≤ reachBytes) = true := hsz0
  have hW' := hW
  obtain ⟨p, q, hA0, hV, rfl, hfz, hnd⟩ := hW
  have hA : DataW.TrodAll enc Try.prog W 0 (fun _ => true) true Try.f6.params.toList args.toList ds p := hA0
  rw [Try.params6] at hA hval hsz
  obtain ⟨v0, vs0, d0, ds0, p0, q0, hargs, rfl, rfl, h0, r0⟩ := trodAll_cons hA
  obtain ⟨v1, vs1, d1, ds1, p1, q1, rfl, rfl, rfl, h1, r1⟩ := trodAll_cons r0
  obtain ⟨rfl, rfl, rfl⟩ := trodAll_nil r1
  obtain rfl : args = #[v0, v1] := by cases args; simp_all
  obtain ⟨rfl, rfl⟩ := trodVars_none hV
  obtain ⟨a0, len0, cap0, rfl⟩ := okWide_slice Try.underlying25 (hval 0 25 v0 rfl rfl)
  have k0 := h0
  have lt0 : ∀ x ∈ p0, x.block < W.heap.size := by obtain ⟨m, hm⟩ := k0; exact DataW.trod_lt m _ _ _ hm
  obtain ⟨bs, hs, h8, hlen, hbl, hcp⟩ : ∃ bs, Seg W .u8 a0 bs ∧ In8 bs ∧ bs.length = len0 ∧ bs.length ≤ 140737488351232 ∧ bs.length ≤ cap0 := by
    obtain ⟨fuel, hf⟩ := h0
    rcases open_ints Try.underlying25 Try.underlying5 (by kernel_rfl) hf with ⟨hcs, _⟩ | ⟨x, l, c, zs, hcs, _, hl, hm, hz, hx, hcell, hwz⟩
    · simp [Value.cells] at hcs
      obtain ⟨rfl, rfl, rfl⟩ := hcs
      exact ⟨[], ⟨fun _ => rfl, fun _ h => (nomatch h), fun _ h => (nomatch h)⟩, fun _ h => (nomatch h), rfl, by simp, by simp⟩
    · simp [Value.cells] at hcs
      obtain ⟨rfl, rfl, rfl⟩ := hcs
      have hd : d0 = _ := congrArg Prod.fst hx
      simp only at hd
      subst hd
      have hw := sized_slice hsz (j := 0) (t := 25) (e := 5) rfl rfl Try.underlying25
      rw [Try.bytes5] at hw
      simp only [lits, List.length_map, List.length_take, List.length_drop, reachBytes] at hw
      have hzl : len0 ≤ zs.length := by rw [hz]; split <;> omega
      refine ⟨zs.take len0, seg_arg hcell, fun y hy => bounds_u8 (hwz y (List.mem_of_mem_take hy)), by simp; omega, by simp; omega, by simp; omega⟩
  obtain ⟨a1, rfl, rfl, rfl, w1⟩ := open_int Try.underlying3 (hval 1 3 v1 rfl rfl) h1
  obtain ⟨b1, b2⟩ := bounds_i64 w1
  clear hA0 hval0 hsz hsz0
  subst hlen
  refine (again_walk a0 bs cap0 a1 W hs h8 hbl hcp b1 b2).mono fun e W' ⟨he, bel⟩ => ?_
  subst he
  exact ⟨_, rfl, _, _, _, [], _, [], hW', trodAll_mk1 (shut_bool Try.underlying4 _), (trodAll_cons_mk (Below.trod Try.laidAgain (by kernel_rfl) (of_decide_eq_true (by kernel_rfl)) k0 bel lt0) (trodAll_cons_mk (shut_int Try.underlying3 w1) trodAll_mk0)), rfl, bel.frame _, fun h => by cases h⟩

theorem wireAgain_holds : Rows.WireAgainSaid :=
  OpenClaim.holds_of_wide 6 Try.f6 rfl rfl rfl rfl rfl rfl rfl ⟨rfl, rfl, rfl, rfl, rfl⟩ rfl rfl rfl rfl rfl (by kernel_rfl) Try.func6 (by kernel_rfl)
    (of_decide_eq_true (by kernel_rfl)) (by unfold Func.isWrapper; first | (rw [if_pos (by decide +kernel)]; kernel_rfl) | (rw [if_neg (by decide +kernel)]; exact ⟨rfl, rfl⟩))
    (fun os started H enc _ => again_lifted os started H enc)

#print axioms wireAgain_holds
end Go.Proofs.Ythhajlbnnffgnaa
