/- The library's heap over the pile: up. The library's heap: Push. -/
import Derived.Test.YtapnjofplilefaaGreatJ1
namespace Go.Proofs.YtapnjofplilefaaGreat
open Go.RowKit

abbrev pv (p : Nat) : Value := .iface 111 (cp p)

/- Which function a method's name leads to. -/
theorem mtLen {W : World} {p n c : Nat} {a : Option Addr} (h : W.cell? ⟨p, 0, none⟩ = some (.slice a n c)) : (method 296 111 (cp p) "Len").run Tryz.prog W = .ok (115, .slice a n c) W := by
  have hm : (Array.find? (fun x => x.name == "Len") Tryz.t111.methods).map (fun m => (m.path, m.func)) = some (#[], some (115, false)) := by kernel_rfl
  unfold method
  go_simp
  obtain ⟨m, h1, h2⟩ := Option.map_eq_some_iff.1 hm
  rw [h1]
  simp only [Prod.mk.injEq] at h2
  simp only [h2.1, h2.2]
  have hn : ∀ s, (Builtin.ssaWrapNilChk_ #[111] 111 #[cp p, strVal "", strVal s]).run Tryz.prog W = .ok (cp p) W := fun s => rfl
  simp [follow, receiverAt, Place.get]
  rw [hn]
  go_simp
theorem mtLess {W : World} {p n c : Nat} {a : Option Addr} (h : W.cell? ⟨p, 0, none⟩ = some (.slice a n c)) : (method 296 111 (cp p) "Less").run Tryz.prog W = .ok (116, .slice a n c) W := by
  have hm : (Array.find? (fun x => x.name == "Less") Tryz.t111.methods).map (fun m => (m.path, m.func)) = some (#[], some (116, false)) := by kernel_rfl
  unfold method
  go_simp
  obtain ⟨m, h1, h2⟩ := Option.map_eq_some_iff.1 hm
  rw [h1]
  simp only [Prod.mk.injEq] at h2
  simp only [h2.1, h2.2]
  have hn : ∀ s, (Builtin.ssaWrapNilChk_ #[111] 111 #[cp p, strVal "", strVal s]).run Tryz.prog W = .ok (cp p) W := fun s => rfl
  simp [follow, receiverAt, Place.get]
  rw [hn]
  go_simp
theorem mtSwap {W : World} {p n c : Nat} {a : Option Addr} (h : W.cell? ⟨p, 0, none⟩ = some (.slice a n c)) : (method 296 111 (cp p) "Swap").run Tryz.prog W = .ok (118, .slice a n c) W := by
  have hm : (Array.find? (fun x => x.name == "Swap") Tryz.t111.methods).map (fun m => (m.path, m.func)) = some (#[], some (118, false)) := by kernel_rfl
  unfold method
  go_simp
  obtain ⟨m, h1, h2⟩ := Option.map_eq_some_iff.1 hm
  rw [h1]
  simp only [Prod.mk.injEq] at h2
  simp only [h2.1, h2.2]
  have hn : ∀ s, (Builtin.ssaWrapNilChk_ #[111] 111 #[cp p, strVal "", strVal s]).run Tryz.prog W = .ok (cp p) W := fun s => rfl
  simp [follow, receiverAt, Place.get]
  rw [hn]
  go_simp
theorem mtPush {W : World} {p : Nat} : (method 296 111 (cp p) "Push").run Tryz.prog W = .ok (117, cp p) W := by
  have hm : (Array.find? (fun x => x.name == "Push") Tryz.t111.methods).map (fun m => (m.path, m.func)) = some (#[], some (117, true)) := by kernel_rfl
  unfold method
  go_simp
  obtain ⟨m, h1, h2⟩ := Option.map_eq_some_iff.1 hm
  rw [h1]
  simp only [Prod.mk.injEq] at h2
  simp only [h2.1, h2.2]
  simp [follow, receiverAt, Place.get]
theorem mtPop {W : World} {p : Nat} : (method 296 111 (cp p) "Pop").run Tryz.prog W = .ok (120, cp p) W := by
  have hm : (Array.find? (fun x => x.name == "Pop") Tryz.t111.methods).map (fun m => (m.path, m.func)) = some (#[], some (120, true)) := by kernel_rfl
  unfold method
  go_simp
  obtain ⟨m, h1, h2⟩ := Option.map_eq_some_iff.1 hm
  rw [h1]
  simp only [Prod.mk.injEq] at h2
  simp only [h2.1, h2.2]
  simp [follow, receiverAt, Place.get]

theorem Pl.len {w : World} {p : Nat} {G : Nat → Prop} {V : List Ho} (h : Pl w p G V) : ∃ po pc, w.cell? ⟨p, 0, none⟩ = some (.slice po V.length pc) := by
  obtain ⟨po, pc, hp, -, -⟩ := h.ex
  exact ⟨po, pc, (one_cell hp).1⟩
theorem Pl.less {w : World} {p : Nat} {G : Nat → Prop} {V : List Ho} (h : Pl w p G V) (i j : Nat) (hi : i < V.length) (hj : j < V.length) : ∃ po pc, (method 296 111 (cp p) "Less").run Tryz.prog w = .ok (116, .slice po V.length pc) w ∧ Calls Tryz.prog 116 #[.slice po V.length pc, .int .i64 (i : Int), .int .i64 (j : Int)] w fun e w' => e = .returned (.bool (lsH (nh V i) (nh V j))) ∧ Pl w' p G V ∧ Touch G w w' := by
  obtain ⟨po, pc, hp, ho, -⟩ := h.ex
  exact ⟨po, pc, mtLess (one_cell hp).1, (pless_any V po pc w (Rc.Own.mem ho).2.1 h.hs i j hi hj).mono fun e w' hh => ⟨hh.1, h.calm hh.2, hh.2.mono fun _ _ h => h.elim⟩⟩
theorem Pl.swap {w : World} {p : Nat} {G : Nat → Prop} {V : List Ho} (h : Pl w p G V) (i j : Nat) (hi : i < V.length) (hj : j < V.length) (hij : i ≠ j) : ∃ po pc, (method 296 111 (cp p) "Swap").run Tryz.prog w = .ok (118, .slice po V.length pc) w ∧ Calls Tryz.prog 118 #[.slice po V.length pc, .int .i64 (i : Int), .int .i64 (j : Int)] w fun e w' => e = .returned (.tuple #[]) ∧ Pl w' p G (swp V i j) ∧ Touch G w w' := by
  obtain ⟨po, pc, hp, ho, hg⟩ := h.ex
  obtain ⟨g, cur, rfl, -, hcur⟩ := own_some ho (by omega)
  refine ⟨some ⟨g, 0, none⟩, pc, mtSwap (one_cell hp).1, (pswap_any V g pc w ho h.hs i j hi hj hij).mono fun e w' hh => ?_⟩
  obtain ⟨h1, h2, h3, h4⟩ := hh
  have hgp : g ≠ p := tags hcur hp (by decide)
  have hpi : p ≠ (nh V i).b := tags hp (h.hs.at_ i hi) (by decide)
  have hpj : p ≠ (nh V j).b := tags hp (h.hs.at_ j hj) (by decide)
  refine ⟨h1, ⟨⟨some ⟨g, 0, none⟩, pc, by rw [swp_len]; exact h4.heap hp (by rintro (e | e | e) <;> omega), by rw [swp_len]; exact h2, by rw [swp_len]; exact hg⟩, h3, h.at_, fun k hk => ?_⟩, h4.mono fun k _ e => ?_⟩
  · rw [swp_len] at hk
    rw [swp_nh hi hj]
    split
    · exact h.in_ i hi
    · split
      · exact h.in_ j hj
      · exact h.in_ k hk
  · rcases e with e | e | e
    · rw [e]; exact hg g rfl
    · rw [e]; exact h.in_ i hi
    · rw [e]; exact h.in_ j hj

set_option maxRecDepth 100000 in
set_option maxHeartbeats 1000000 in
theorem hup_any (V0 : List Ho) (p : Nat) (G : Nat → Prop) (j0 : Nat) (w0 : World) (h : Pl w0 p G V0) (hj : j0 < V0.length) (hl : V0.length ≤ 10000000000000) : Calls Tryz.prog 76 #[pv p, .int .i64 (j0 : Int)] w0 fun e w' => e = .returned (.tuple #[]) ∧ ∃ V, Pl w' p G V ∧ V.Perm V0 ∧ Touch G w0 w' ∧ (∀ n, j0 < n → n ≤ V0.length → Up V0 n j0 → Hp V n) ∧ ∀ k, j0 < k → nh V k = nh V0 k := by
  have H0 := hide h
  have HJ := hide hj
  have HL := hide hl
  clear h hj hl
  go_enter Tryz.func76, Tryz.ntmps76
  go_wp2_with fail
  go_loopw [1] (fun s1 wr => ∃ (j : Nat) (V : List Ho), s1 = .int .i64 (j : Int) ∧ Hid (j < V0.length ∧ Pl wr p G V ∧ V.Perm V0 ∧ Touch G w0 wr ∧ (∀ n, j0 < n → n ≤ V0.length → Up V0 n j0 → Up V n j ∧ j < n) ∧ j ≤ j0 ∧ ∀ k, j0 < k → nh V k = nh V0 k)) (fun s1 _ => (intOf s1).toNat)
  case atStart => exact ⟨j0, V0, rfl, hide ⟨HJ.out, H0.out, List.Perm.refl _, Touch.refl _ _, fun n h1 _ h3 => ⟨h3, h1⟩, Nat.le_refl _, fun _ _ => rfl⟩⟩
  case round =>
    obtain ⟨j, V, rfl, HH⟩ := hrel
    have hb : j ≤ 10000000000000 := by have := HL.out; have := HH.out.1; omega
    by_cases hz : j = 0
    · subst hz
      have HQ := hide HH.out.2
      go_wp2_with fail
      go_end0
      exact ⟨rfl, V, HQ.out.1, HQ.out.2.1, HQ.out.2.2.1, fun n h1 h2 h3 => up_done (HQ.out.2.2.2.1 n h1 h2 h3).1 (.inl rfl), HQ.out.2.2.2.2.2⟩
    · obtain ⟨i, hi⟩ : ∃ i, i = (j - 1) / 2 := ⟨_, rfl⟩
      have z1 : wrap64 ((j : Int) - 1) = (j : Int) - 1 := by unfold wrap64; omega
      have z2 : ((j : Int) - 1) / 2 = (i : Int) := by omega
      have z3 : ¬ (i : Int) = (j : Int) := by omega
      have hlen : V.length = V0.length := HH.out.2.2.1.length_eq
      have HN : Hid (i < V.length ∧ j < V.length ∧ i ≠ j) := hide (by have := HH.out.1; omega)
      obtain ⟨po, pc, ML, cl⟩ := HH.out.2.1.less j i HN.out.2.1 HN.out.1
      have CL := hide cl
      have HI := hide hi
      clear cl hi hlen
      go_wp2_with fail
      refine CL.out.mono ?_
      rintro e w9 ⟨rfl, p9, t9⟩
      have HP9 := hide p9
      have T9 := hide t9
      by_cases hls : lsH (nh V j) (nh V i) = true
      · rw [hls]
        have HLS := hide hls
        obtain ⟨po', pc', MS, cs⟩ := p9.swap i j HN.out.1 HN.out.2.1 HN.out.2.2
        have CS := hide cs
        clear cs p9 hls t9 ML CL
        go_wp2_with fail
        refine CS.out.mono ?_
        rintro e w8 ⟨rfl, p8, t8⟩
        have HP8 := hide p8
        have T8 := hide t8
        clear p8 t8 MS CS
        go_wp2_with fail
        go_roundw
        case rel =>
          refine ⟨i, swp V i j, by first | rfl | go_num, hide ⟨?_, HP8.out, (swp_perm HN.out.1 HN.out.2.1).trans HH.out.2.2.1, (HH.out.2.2.2.1.trans T9.out fun _ _ h => h).trans T8.out fun _ _ h => h, fun n h1 h2 h3 => ?_, by have := HH.out.2.2.2.2.2.1; have := HI.out; omega, fun k hk => ?_⟩⟩
          · have := HH.out.1; have := HI.out; omega
          rotate_left
          · have := HH.out.2.2.2.2.2.1
            have := HI.out
            rw [swp_nh HN.out.1 HN.out.2.1, if_neg (by omega), if_neg (by omega)]
            exact HH.out.2.2.2.2.2.2 k hk
          · obtain ⟨u1, u2⟩ := HH.out.2.2.2.2.1 n h1 h2 h3
            have := HI.out
            have e := HH.out.2.2.1.length_eq
            rw [HI.out]
            exact ⟨up_step (by omega) u2 (by omega) u1 (by rw [← HI.out]; exact HLS.out), by omega⟩
        case measure => simp [intOf]; omega
      · rw [Bool.eq_false_iff.2 hls]
        have HLS := hide (Bool.eq_false_iff.2 hls)
        clear hls t9 p9 ML CL
        go_wp2_with fail
        go_end0
        refine ⟨rfl, V, HP9.out, HH.out.2.2.1, HH.out.2.2.2.1.trans T9.out fun _ _ h => h, fun n h1 h2 h3 => up_done (HH.out.2.2.2.2.1 n h1 h2 h3).1 (.inr ?_), HH.out.2.2.2.2.2.2⟩
        unfold okP
        rw [← HI.out]
        exact HLS.out

end Go.Proofs.YtapnjofplilefaaGreat

namespace Go.Proofs.YtapnjofplilefaaGreat
open Go.RowKit
set_option maxRecDepth 100000 in
set_option maxHeartbeats 1000000 in
theorem hpush_any (V : List Ho) (p : Nat) (G : Nat → Prop) (x : Ho) (k : Int) (w : World) (h : Pl w p G V) (hh : Hp V V.length) (hb : w.heap[x.b]? = some (.cells #[.string x.n, .int .i64 x.t, .int .i64 k] 149 (0, 0))) (hf : ∀ i, i < V.length → (nh V i).b ≠ x.b) (hl : V.length ≤ 9000000000000) : Calls Tryz.prog 72 #[pv p, .iface 150 (cp x.b)] w fun e w' => e = .returned (.tuple #[]) ∧ ∃ V', Pl w' p (fun g => G g ∨ g = x.b ∨ w.heap.size ≤ g) V' ∧ V'.Perm (V ++ [x]) ∧ Touch (fun g => G g ∨ g = x.b) w w' ∧ Hp V' V'.length := by
  have CP := hide (ppush_any V p G x k w h hb hf (by omega))
  have MP : ∀ W : World, (method 296 111 (cp p) "Push").run Tryz.prog W = .ok (117, cp p) W := fun W => mtPush
  have HUP := hide (up_more (x := x) hh)
  have HL := hide hl
  have z1 : wrap64 ((V.length : Int) + 1) = (V.length : Int) + 1 := by unfold wrap64; omega
  have z2 : wrap64 ((V.length : Int) + 1 - 1) = (V.length : Int) := by unfold wrap64; omega
  have z3 : wrap64 ((V.length : Int)) = (V.length : Int) := by unfold wrap64; omega
  have e1 : (V ++ [x]).length = V.length + 1 := by simp
  have HE1 := hide e1
  clear h hh hb hf hl e1
  go_enter Tryz.func72, Tryz.ntmps72
  go_wp2_with fail
  refine CP.out.mono ?_
  rintro e w9 ⟨rfl, p9, t9⟩
  have HP9 := hide p9
  have T9 := hide t9
  obtain ⟨po, pc, c0⟩ := p9.len
  rw [HE1.out] at c0
  have ML := mtLen c0
  have CN := hide (plen_any po (V.length + 1) pc w9)
  have CU := hide (hup_any (V ++ [x]) p _ V.length w9 p9 (by simp) (by have := HL.out; simp; omega))
  clear p9 t9 c0 CP MP
  go_wp2_with fail
  refine CN.out.mono ?_
  rintro e w8 ⟨rfl, rfl⟩
  clear CN ML
  go_wp2_with fail
  refine CU.out.mono ?_
  rintro e w8 ⟨rfl, V', p8, perm8, t8, up8, -⟩
  have HP8 := hide p8
  have T8 := hide t8
  have HM8 := hide perm8
  have HU8 := hide up8
  clear p8 t8 perm8 up8 CU
  go_wp2_with fail
  go_end0
  refine ⟨rfl, V', HP8.out, HM8.out, Touch.trans T9.out (T8.out) (fun g hg hh => ?_), ?_⟩
  · rcases hh with h | h | h
    · exact .inl h
    · exact .inr h
    · omega
  · rw [HM8.out.length_eq, HE1.out]
    exact HU8.out _ (by omega) (by rw [HE1.out]; exact Nat.le_refl _) HUP.out

end Go.Proofs.YtapnjofplilefaaGreat
