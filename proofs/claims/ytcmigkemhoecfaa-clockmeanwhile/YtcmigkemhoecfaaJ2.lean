/- The library's heap over the pile: up. The library's heap over the pile: down. The library's heap over the pile: Fix, Push, Remove. The library's heap over the pile: Remove. -/
import Derived.Test.YtcmigkemhoecfaaJ1
namespace Go.Proofs.Ytcmigkemhoecfaa
open Go.RowKit

abbrev pv (p : Nat) : Value := .iface 66 (cp p)

/- Which function a method's name leads to. -/
theorem mtLen {W : World} {p n c : Nat} {a : Option Addr} (h : W.cell? ⟨p, 0, none⟩ = some (.slice a n c)) : (method 251 66 (cp p) "Len").run Try.prog W = .ok (57, .slice a n c) W := by
  have hm : (Array.find? (fun x => x.name == "Len") Try.t66.methods).map (fun m => (m.path, m.func)) = some (#[], some (57, false)) := by kernel_rfl
  unfold method
  go_simp
  obtain ⟨m, h1, h2⟩ := Option.map_eq_some_iff.1 hm
  rw [h1]
  simp only [Prod.mk.injEq] at h2
  simp only [h2.1, h2.2]
  have hn : ∀ s, (Builtin.ssaWrapNilChk_ #[66] 66 #[cp p, strVal "", strVal s]).run Try.prog W = .ok (cp p) W := fun s => rfl
  simp [follow, receiverAt, Place.get]
  rw [hn]
  go_simp
theorem mtLess {W : World} {p n c : Nat} {a : Option Addr} (h : W.cell? ⟨p, 0, none⟩ = some (.slice a n c)) : (method 251 66 (cp p) "Less").run Try.prog W = .ok (103, .slice a n c) W := by
  have hm : (Array.find? (fun x => x.name == "Less") Try.t66.methods).map (fun m => (m.path, m.func)) = some (#[], some (103, false)) := by kernel_rfl
  unfold method
  go_simp
  obtain ⟨m, h1, h2⟩ := Option.map_eq_some_iff.1 hm
  rw [h1]
  simp only [Prod.mk.injEq] at h2
  simp only [h2.1, h2.2]
  have hn : ∀ s, (Builtin.ssaWrapNilChk_ #[66] 66 #[cp p, strVal "", strVal s]).run Try.prog W = .ok (cp p) W := fun s => rfl
  simp [follow, receiverAt, Place.get]
  rw [hn]
  go_simp
theorem mtSwap {W : World} {p n c : Nat} {a : Option Addr} (h : W.cell? ⟨p, 0, none⟩ = some (.slice a n c)) : (method 251 66 (cp p) "Swap").run Try.prog W = .ok (106, .slice a n c) W := by
  have hm : (Array.find? (fun x => x.name == "Swap") Try.t66.methods).map (fun m => (m.path, m.func)) = some (#[], some (106, false)) := by kernel_rfl
  unfold method
  go_simp
  obtain ⟨m, h1, h2⟩ := Option.map_eq_some_iff.1 hm
  rw [h1]
  simp only [Prod.mk.injEq] at h2
  simp only [h2.1, h2.2]
  have hn : ∀ s, (Builtin.ssaWrapNilChk_ #[66] 66 #[cp p, strVal "", strVal s]).run Try.prog W = .ok (cp p) W := fun s => rfl
  simp [follow, receiverAt, Place.get]
  rw [hn]
  go_simp
theorem mtPush {W : World} {p : Nat} : (method 251 66 (cp p) "Push").run Try.prog W = .ok (105, cp p) W := by
  have hm : (Array.find? (fun x => x.name == "Push") Try.t66.methods).map (fun m => (m.path, m.func)) = some (#[], some (105, true)) := by kernel_rfl
  unfold method
  go_simp
  obtain ⟨m, h1, h2⟩ := Option.map_eq_some_iff.1 hm
  rw [h1]
  simp only [Prod.mk.injEq] at h2
  simp only [h2.1, h2.2]
  simp [follow, receiverAt, Place.get]
theorem mtPop {W : World} {p : Nat} : (method 251 66 (cp p) "Pop").run Try.prog W = .ok (104, cp p) W := by
  have hm : (Array.find? (fun x => x.name == "Pop") Try.t66.methods).map (fun m => (m.path, m.func)) = some (#[], some (104, true)) := by kernel_rfl
  unfold method
  go_simp
  obtain ⟨m, h1, h2⟩ := Option.map_eq_some_iff.1 hm
  rw [h1]
  simp only [Prod.mk.injEq] at h2
  simp only [h2.1, h2.2]
  simp [follow, receiverAt, Place.get]

theorem Pl.len {w : World} {p : Nat} {G : Nat → Prop} {V : List Ho} (h : Pl w p G V) : ∃ po pc, w.cell? ⟨p, 0, none⟩ = some (.slice po V.length pc) := by
  obtain ⟨po, pc, hp, -, -⟩ := h.ex
  exact ⟨po, pc, (one_cell hp).1⟩
theorem Pl.less {w : World} {p : Nat} {G : Nat → Prop} {V : List Ho} (h : Pl w p G V) (i j : Nat) (hi : i < V.length) (hj : j < V.length) : ∃ po pc, (method 251 66 (cp p) "Less").run Try.prog w = .ok (103, .slice po V.length pc) w ∧ Calls Try.prog 103 #[.slice po V.length pc, .int .i64 (i : Int), .int .i64 (j : Int)] w fun e w' => e = .returned (.bool (lsH (nh V i) (nh V j))) ∧ Pl w' p G V ∧ Touch G w w' := by
  obtain ⟨po, pc, hp, ho, -⟩ := h.ex
  exact ⟨po, pc, mtLess (one_cell hp).1, (pless_any V po pc w (Rc.Own.mem ho).2.1 h.hs i j hi hj).mono fun e w' hh => ⟨hh.1, h.calm hh.2, hh.2.mono fun _ _ h => h.elim⟩⟩
theorem Pl.swap {w : World} {p : Nat} {G : Nat → Prop} {V : List Ho} (h : Pl w p G V) (i j : Nat) (hi : i < V.length) (hj : j < V.length) (hij : i ≠ j) : ∃ po pc, (method 251 66 (cp p) "Swap").run Try.prog w = .ok (106, .slice po V.length pc) w ∧ Calls Try.prog 106 #[.slice po V.length pc, .int .i64 (i : Int), .int .i64 (j : Int)] w fun e w' => e = .returned (.tuple #[]) ∧ Pl w' p G (swp V i j) ∧ Touch G w w' := by
  obtain ⟨po, pc, hp, ho, hg⟩ := h.ex
  obtain ⟨g, cur, rfl, -, hcur⟩ := own_some ho (by omega)
  refine ⟨some ⟨g, 0, none⟩, pc, mtSwap (one_cell hp).1, (pswap_any V g pc w ho h.hs i j hi hj hij).mono fun e w' hh => ?_⟩
  obtain ⟨h1, h2, h3, h4⟩ := hh
  have hgp : g ≠ p := tags hcur hp (by decide)
  have hpi : p ≠ (nh V i).b := tags hp (h.hs.at_ i hi) (by decide)
  have hpj : p ≠ (nh V j).b := tags hp (h.hs.at_ j hj) (by decide)
  refine ⟨h1, ⟨⟨some ⟨g, 0, none⟩, pc, by rw [swp_len]; exact h4.heap hp (by rintro (e | e | e) <;> omega), by rw [swp_len]; exact h2, by rw [swp_len]; exact hg⟩, h3, h.at_, fun k hk => ?_⟩, h4.mono fun k _ e => ?_⟩
  · rw [swp_len] at hk
    rw [swp_nh hi hj]
    split
    · exact h.in_ i hi
    · split
      · exact h.in_ j hj
      · exact h.in_ k hk
  · rcases e with e | e | e
    · rw [e]; exact hg g rfl
    · rw [e]; exact h.in_ i hi
    · rw [e]; exact h.in_ j hj

set_option maxRecDepth 100000 in
set_option maxHeartbeats 1000000 in
theorem hup_any (V0 : List Ho) (p : Nat) (G : Nat → Prop) (j0 : Nat) (w0 : World) (h : Pl w0 p G V0) (hj : j0 < V0.length) (hl : V0.length ≤ 10000000000000) : Calls Try.prog 59 #[pv p, .int .i64 (j0 : Int)] w0 fun e w' => e = .returned (.tuple #[]) ∧ ∃ V, Pl w' p G V ∧ V.Perm V0 ∧ Touch G w0 w' ∧ (∀ n, j0 < n → n ≤ V0.length → Up V0 n j0 → Hp V n) ∧ ∀ k, j0 < k → nh V k = nh V0 k := by
  have H0 := hide h
  have HJ := hide hj
  have HL := hide hl
  clear h hj hl
  go_enter Try.func59, Try.ntmps59
  go_wp2_with fail
  go_loopw [1] (fun s1 wr => ∃ (j : Nat) (V : List Ho), s1 = .int .i64 (j : Int) ∧ Hid (j < V0.length ∧ Pl wr p G V ∧ V.Perm V0 ∧ Touch G w0 wr ∧ (∀ n, j0 < n → n ≤ V0.length → Up V0 n j0 → Up V n j ∧ j < n) ∧ j ≤ j0 ∧ ∀ k, j0 < k → nh V k = nh V0 k)) (fun s1 _ => (intOf s1).toNat)
  case atStart => exact ⟨j0, V0, rfl, hide ⟨HJ.out, H0.out, List.Perm.refl _, Touch.refl _ _, fun n h1 _ h3 => ⟨h3, h1⟩, Nat.le_refl _, fun _ _ => rfl⟩⟩
  case round =>
    obtain ⟨j, V, rfl, HH⟩ := hrel
    have hb : j ≤ 10000000000000 := by have := HL.out; have := HH.out.1; omega
    by_cases hz : j = 0
    · subst hz
      have HQ := hide HH.out.2
      go_wp2_with fail
      go_end0
      exact ⟨rfl, V, HQ.out.1, HQ.out.2.1, HQ.out.2.2.1, fun n h1 h2 h3 => up_done (HQ.out.2.2.2.1 n h1 h2 h3).1 (.inl rfl), HQ.out.2.2.2.2.2⟩
    · obtain ⟨i, hi⟩ : ∃ i, i = (j - 1) / 2 := ⟨_, rfl⟩
      have z1 : wrap64 ((j : Int) - 1) = (j : Int) - 1 := by unfold wrap64; omega
      have z2 : ((j : Int) - 1) / 2 = (i : Int) := by omega
      have z3 : ¬ (i : Int) = (j : Int) := by omega
      have hlen : V.length = V0.length := HH.out.2.2.1.length_eq
      have HN : Hid (i < V.length ∧ j < V.length ∧ i ≠ j) := hide (by have := HH.out.1; omega)
      obtain ⟨po, pc, ML, cl⟩ := HH.out.2.1.less j i HN.out.2.1 HN.out.1
      have CL := hide cl
      have HI := hide hi
      clear cl hi hlen
      go_wp2_with fail
      refine CL.out.mono ?_
      rintro e w9 ⟨rfl, p9, t9⟩
      have HP9 := hide p9
      have T9 := hide t9
      by_cases hls : lsH (nh V j) (nh V i) = true
      · rw [hls]
        have HLS := hide hls
        obtain ⟨po', pc', MS, cs⟩ := p9.swap i j HN.out.1 HN.out.2.1 HN.out.2.2
        have CS := hide cs
        clear cs p9 hls t9 ML CL
        go_wp2_with fail
        refine CS.out.mono ?_
        rintro e w8 ⟨rfl, p8, t8⟩
        have HP8 := hide p8
        have T8 := hide t8
        clear p8 t8 MS CS
        go_wp2_with fail
        go_roundw
        case rel =>
          refine ⟨i, swp V i j, by first | rfl | go_num, hide ⟨?_, HP8.out, (swp_perm HN.out.1 HN.out.2.1).trans HH.out.2.2.1, (HH.out.2.2.2.1.trans T9.out fun _ _ h => h).trans T8.out fun _ _ h => h, fun n h1 h2 h3 => ?_, by have := HH.out.2.2.2.2.2.1; have := HI.out; omega, fun k hk => ?_⟩⟩
          · have := HH.out.1; have := HI.out; omega
          rotate_left
          · have := HH.out.2.2.2.2.2.1
            have := HI.out
            rw [swp_nh HN.out.1 HN.out.2.1, if_neg (by omega), if_neg (by omega)]
            exact HH.out.2.2.2.2.2.2 k hk
          · obtain ⟨u1, u2⟩ := HH.out.2.2.2.2.1 n h1 h2 h3
            have := HI.out
            have e := HH.out.2.2.1.length_eq
            rw [HI.out]
            exact ⟨up_step (by omega) u2 (by omega) u1 (by rw [← HI.out]; exact HLS.out), by omega⟩
        case measure => simp [intOf]; omega
      · rw [Bool.eq_false_iff.2 hls]
        have HLS := hide (Bool.eq_false_iff.2 hls)
        clear hls t9 p9 ML CL
        go_wp2_with fail
        go_end0
        refine ⟨rfl, V, HP9.out, HH.out.2.2.1, HH.out.2.2.2.1.trans T9.out fun _ _ h => h, fun n h1 h2 h3 => up_done (HH.out.2.2.2.2.1 n h1 h2 h3).1 (.inr ?_), HH.out.2.2.2.2.2.2⟩
        unfold okP
        rw [← HI.out]
        exact HLS.out

end Go.Proofs.Ytcmigkemhoecfaa

namespace Go.Proofs.Ytcmigkemhoecfaa
open Go.RowKit

/-- What down leaves. -/
def Went (V0 V : List Ho) (n i0 : Nat) (b : Bool) : Prop := (b = true ∧ Hp V n) ∨ (b = false ∧ V = V0 ∧ Up V0 n i0)

set_option maxRecDepth 100000 in
set_option maxHeartbeats 2000000 in
theorem hdown_any (V0 : List Ho) (p : Nat) (G : Nat → Prop) (i0 n : Nat) (w0 : World) (h : Pl w0 p G V0) (hi : i0 < n) (hn : n ≤ V0.length) (hl : V0.length ≤ 10000000000000) (hd : Dn V0 n i0) : Calls Try.prog 58 #[pv p, .int .i64 (i0 : Int), .int .i64 (n : Int)] w0 fun e w' => ∃ b, e = .returned (.bool b) ∧ ∃ V, Pl w' p G V ∧ V.Perm V0 ∧ Touch G w0 w' ∧ (∀ k, n ≤ k → nh V k = nh V0 k) ∧ Went V0 V n i0 b := by
  have H0 := hide h
  have HI0 := hide hi
  have HN0 := hide hn
  have HL := hide hl
  have HD := hide hd
  clear h hi hn hl hd
  go_enter Try.func58, Try.ntmps58
  go_wp2_with fail
  go_loopw [7] (fun s7 wr => ∃ (i : Nat) (V : List Ho), s7 = .int .i64 (i : Int) ∧ Hid (i < n ∧ Pl wr p G V ∧ V.Perm V0 ∧ Touch G w0 wr ∧ (∀ k, n ≤ k → nh V k = nh V0 k) ∧ Dn V n i ∧ ((i = i0 ∧ V = V0) ∨ (i0 < i ∧ okP V i)))) (fun s7 _ => n - (intOf s7).toNat)
  case atStart => exact ⟨i0, V0, rfl, hide ⟨HI0.out, H0.out, List.Perm.refl _, Touch.refl _ _, fun _ _ => rfl, HD.out, .inl ⟨rfl, rfl⟩⟩⟩
  case round =>
    obtain ⟨i, V, rfl, HH⟩ := hrel
    have hb : n ≤ 10000000000000 ∧ i < n ∧ V.length = V0.length ∧ n ≤ V0.length := by have := HL.out; have := HH.out.1; have := HN0.out; have := HH.out.2.2.1.length_eq; omega
    obtain ⟨j1, hj1⟩ : ∃ j, j = 2 * i + 1 := ⟨_, rfl⟩
    obtain ⟨j2, hj2⟩ : ∃ j, j = 2 * i + 2 := ⟨_, rfl⟩
    have z1 : wrap64 (2 * (i : Int)) = 2 * (i : Int) := by unfold wrap64; omega
    have z2 : wrap64 (2 * (i : Int) + 1) = (j1 : Int) := by unfold wrap64; omega
    have z3 : wrap64 ((j1 : Int) + 1) = (j2 : Int) := by unfold wrap64; omega
    have HI : Hid (i0 ≤ i) := hide (by rcases HH.out.2.2.2.2.2.2 with h | h <;> omega)
    have FIN : Hid ((∀ c, 0 < c → c < n → (c - 1) / 2 = i → okP V c) → Went V0 V n i0 (decide (i0 < i))) := hide fun hc => by
      have U := dn_done HH.out.2.2.2.2.2.1 hc
      rcases HH.out.2.2.2.2.2.2 with ⟨e1, e2⟩ | ⟨e1, e2⟩
      · right
        subst e1 e2
        exact ⟨by simp, rfl, U⟩
      · left
        exact ⟨decide_eq_true e1, up_done U (.inr e2)⟩
    by_cases h1 : n ≤ j1
    · have y1 : (n : Int) ≤ (j1 : Int) := by omega
      have HE : Hid (∀ c, 0 < c → c < n → (c - 1) / 2 = i → okP V c) := hide fun c a b d => by omega
      clear hj1 hj2 hb
      go_wp2_with fail
      go_ret
      exact ⟨_, rfl, V, HH.out.2.1, HH.out.2.2.1, HH.out.2.2.2.1, HH.out.2.2.2.2.1, FIN.out HE.out⟩
    · have y1 : ¬ (n : Int) ≤ (j1 : Int) := by omega
      have y0 : ¬ (j1 : Int) < 0 := by omega
      by_cases h2 : j2 < n
      · have y2 : (j2 : Int) < (n : Int) := by omega
        have HN : Hid ((i < n ∧ i < j1 ∧ j1 = 2 * i + 1 ∧ j2 = 2 * i + 2 ∧ n ≤ V.length) ∧ j1 < n ∧ j2 < n) := hide (by omega)
        clear hj1 hj2 hb h1 h2
        obtain ⟨po, pc, ML, cl⟩ := HH.out.2.1.less j2 j1 (by have := HN.out; omega) (by have := HN.out; omega)
        have CL := hide cl
        clear cl
        go_wp2_with fail
        refine CL.out.mono ?_
        rintro e w9 ⟨rfl, p9, t9⟩
        have HP9 := hide p9
        have TT := hide (HH.out.2.2.2.1.trans t9 fun _ _ h => h)
        clear p9 t9 ML CL
        by_cases hll : lsH (nh V j2) (nh V j1) = true
        · rw [hll]
          have HLL := hide hll
          clear hll
          obtain ⟨po3, pc3, ML3, cl3⟩ := HP9.out.less j2 i (by have := HN.out; omega) (by have := HN.out; omega)
          have CL3 := hide cl3
          clear cl3
          go_wp2_with fail
          refine CL3.out.mono ?_
          rintro e w7 ⟨rfl, p7, t7⟩
          have HP7 := hide p7
          have T7 := hide t7
          have SB : Hid (∀ s, 0 < s → s < n → (s - 1) / 2 = i → s ≠ j2 → lsH (nh V s) (nh V j2) = false) := hide (fun s a b d e => by (obtain rfl : s = j1 := by (have := HN.out; omega)); exact lsH_asym HLL.out)
          by_cases hls : lsH (nh V j2) (nh V i) = true
          · rw [hls]
            have HLS := hide hls
            obtain ⟨po4, pc4, MS, cs⟩ := p7.swap i j2 (by have := HN.out; omega) (by have := HN.out; omega) (by have := HN.out; omega)
            have CS := hide cs
            clear cs p7 hls t7 ML3 CL3
            go_wp2_with fail
            refine CS.out.mono ?_
            rintro e w8 ⟨rfl, p8, t8⟩
            have HP8 := hide p8
            have T8 := hide t8
            clear p8 t8 MS CS
            go_wp2_with fail
            go_roundw
            case rel =>
              refine ⟨j2, swp V i j2, by first | rfl | go_num, hide ⟨HN.out.2.2, HP8.out, (swp_perm (by have := HN.out; omega) (by have := HN.out; omega)).trans HH.out.2.2.1, (TT.out.trans T7.out fun _ _ h => h).trans T8.out fun _ _ h => h, fun k hk => ?_, ?_⟩⟩
              · rw [swp_nh (by have := HN.out; omega) (by have := HN.out; omega), if_neg (by have := HN.out; omega), if_neg (by have := HN.out; omega)]
                exact HH.out.2.2.2.2.1 k hk
              · have D := dn_step (c := j2) (by have := HN.out; omega) (by have := HN.out; omega) (by have := HN.out; omega) (by have := HN.out; omega) HH.out.2.2.2.2.2.1 HLS.out SB.out
                exact ⟨D.1, .inr ⟨by have := HN.out; have := HI.out; omega, D.2⟩⟩
            case measure => simp [intOf]; have := HN.out; omega
          · rw [Bool.eq_false_iff.2 hls]
            have HLS := hide (Bool.eq_false_iff.2 hls)
            clear hls t7 p7 ML3 CL3
            go_wp2_with fail
            go_ret
            exact ⟨_, rfl, V, HP7.out, HH.out.2.2.1, TT.out.trans T7.out fun _ _ h => h, HH.out.2.2.2.2.1, FIN.out (fun c h1 h2 h3 => by
              by_cases e : c = j2
              · unfold okP; rw [h3, e]; exact HLS.out
              · unfold okP; rw [h3]; exact lsH_le HLS.out (SB.out c h1 h2 h3 e))⟩
        · rw [Bool.eq_false_iff.2 hll]
          have HLL := hide (Bool.eq_false_iff.2 hll)
          clear hll
          obtain ⟨po3, pc3, ML3, cl3⟩ := HP9.out.less j1 i (by have := HN.out; omega) (by have := HN.out; omega)
          have CL3 := hide cl3
          clear cl3
          go_wp2_with fail
          refine CL3.out.mono ?_
          rintro e w7 ⟨rfl, p7, t7⟩
          have HP7 := hide p7
          have T7 := hide t7
          have SB : Hid (∀ s, 0 < s → s < n → (s - 1) / 2 = i → s ≠ j1 → lsH (nh V s) (nh V j1) = false) := hide (fun s a b d e => by (obtain rfl : s = j2 := by (have := HN.out; omega)); exact HLL.out)
          by_cases hls : lsH (nh V j1) (nh V i) = true
          · rw [hls]
            have HLS := hide hls
            obtain ⟨po4, pc4, MS, cs⟩ := p7.swap i j1 (by have := HN.out; omega) (by have := HN.out; omega) (by have := HN.out; omega)
            have CS := hide cs
            clear cs p7 hls t7 ML3 CL3
            go_wp2_with fail
            refine CS.out.mono ?_
            rintro e w8 ⟨rfl, p8, t8⟩
            have HP8 := hide p8
            have T8 := hide t8
            clear p8 t8 MS CS
            go_wp2_with fail
            go_roundw
            case rel =>
              refine ⟨j1, swp V i j1, by first | rfl | go_num, hide ⟨HN.out.2.1, HP8.out, (swp_perm (by have := HN.out; omega) (by have := HN.out; omega)).trans HH.out.2.2.1, (TT.out.trans T7.out fun _ _ h => h).trans T8.out fun _ _ h => h, fun k hk => ?_, ?_⟩⟩
              · rw [swp_nh (by have := HN.out; omega) (by have := HN.out; omega), if_neg (by have := HN.out; omega), if_neg (by have := HN.out; omega)]
                exact HH.out.2.2.2.2.1 k hk
              · have D := dn_step (c := j1) (by have := HN.out; omega) (by have := HN.out; omega) (by have := HN.out; omega) (by have := HN.out; omega) HH.out.2.2.2.2.2.1 HLS.out SB.out
                exact ⟨D.1, .inr ⟨by have := HN.out; have := HI.out; omega, D.2⟩⟩
            case measure => simp [intOf]; have := HN.out; omega
          · rw [Bool.eq_false_iff.2 hls]
            have HLS := hide (Bool.eq_false_iff.2 hls)
            clear hls t7 p7 ML3 CL3
            go_wp2_with fail
            go_ret
            exact ⟨_, rfl, V, HP7.out, HH.out.2.2.1, TT.out.trans T7.out fun _ _ h => h, HH.out.2.2.2.2.1, FIN.out (fun c h1 h2 h3 => by
              by_cases e : c = j1
              · unfold okP; rw [h3, e]; exact HLS.out
              · unfold okP; rw [h3]; exact lsH_le HLS.out (SB.out c h1 h2 h3 e))⟩
      · have y2 : ¬ (j2 : Int) < (n : Int) := by omega
        have HN : Hid ((i < n ∧ i < j1 ∧ j1 = 2 * i + 1 ∧ j2 = 2 * i + 2 ∧ n ≤ V.length) ∧ j1 < n ∧ ¬ j2 < n) := hide (by omega)
        have HP9 := hide HH.out.2.1
        have TT := hide HH.out.2.2.2.1
        clear hj1 hj2 hb h1 h2
        obtain ⟨po3, pc3, ML3, cl3⟩ := HP9.out.less j1 i (by have := HN.out; omega) (by have := HN.out; omega)
        have CL3 := hide cl3
        clear cl3
        go_wp2_with fail
        refine CL3.out.mono ?_
        rintro e w7 ⟨rfl, p7, t7⟩
        have HP7 := hide p7
        have T7 := hide t7
        have SB : Hid (∀ s, 0 < s → s < n → (s - 1) / 2 = i → s ≠ j1 → lsH (nh V s) (nh V j1) = false) := hide (fun s a b d e => by exfalso; have := HN.out; omega)
        by_cases hls : lsH (nh V j1) (nh V i) = true
        · rw [hls]
          have HLS := hide hls
          obtain ⟨po4, pc4, MS, cs⟩ := p7.swap i j1 (by have := HN.out; omega) (by have := HN.out; omega) (by have := HN.out; omega)
          have CS := hide cs
          clear cs p7 hls t7 ML3 CL3
          go_wp2_with fail
          refine CS.out.mono ?_
          rintro e w8 ⟨rfl, p8, t8⟩
          have HP8 := hide p8
          have T8 := hide t8
          clear p8 t8 MS CS
          go_wp2_with fail
          go_roundw
          case rel =>
            refine ⟨j1, swp V i j1, by first | rfl | go_num, hide ⟨HN.out.2.1, HP8.out, (swp_perm (by have := HN.out; omega) (by have := HN.out; omega)).trans HH.out.2.2.1, (TT.out.trans T7.out fun _ _ h => h).trans T8.out fun _ _ h => h, fun k hk => ?_, ?_⟩⟩
            · rw [swp_nh (by have := HN.out; omega) (by have := HN.out; omega), if_neg (by have := HN.out; omega), if_neg (by have := HN.out; omega)]
              exact HH.out.2.2.2.2.1 k hk
            · have D := dn_step (c := j1) (by have := HN.out; omega) (by have := HN.out; omega) (by have := HN.out; omega) (by have := HN.out; omega) HH.out.2.2.2.2.2.1 HLS.out SB.out
              exact ⟨D.1, .inr ⟨by have := HN.out; have := HI.out; omega, D.2⟩⟩
          case measure => simp [intOf]; have := HN.out; omega
        · rw [Bool.eq_false_iff.2 hls]
          have HLS := hide (Bool.eq_false_iff.2 hls)
          clear hls t7 p7 ML3 CL3
          go_wp2_with fail
          go_ret
          exact ⟨_, rfl, V, HP7.out, HH.out.2.2.1, TT.out.trans T7.out fun _ _ h => h, HH.out.2.2.2.2.1, FIN.out (fun c h1 h2 h3 => by
            by_cases e : c = j1
            · unfold okP; rw [h3, e]; exact HLS.out
            · unfold okP; rw [h3]; exact lsH_le HLS.out (SB.out c h1 h2 h3 e))⟩

end Go.Proofs.Ytcmigkemhoecfaa

namespace Go.Proofs.Ytcmigkemhoecfaa
open Go.RowKit

theorem hp_less {V : List Ho} {n m : Nat} (h : Hp V n) (hm : m ≤ n) : Hp V m := fun k a b => h k a (by omega)

set_option maxRecDepth 100000 in
set_option maxHeartbeats 1000000 in
theorem hfix_any (V0 : List Ho) (p : Nat) (G : Nat → Prop) (i : Nat) (w : World) (h : Pl w p G V0) (hi : i < V0.length) (hl : V0.length ≤ 10000000000000) (hd : Dn V0 V0.length i) : Calls Try.prog 47 #[pv p, .int .i64 (i : Int)] w fun e w' => e = .returned (.tuple #[]) ∧ ∃ V, Pl w' p G V ∧ V.Perm V0 ∧ Touch G w w' ∧ Hp V V.length := by
  obtain ⟨po, pc, c0⟩ := h.len
  have ML := mtLen c0
  have CN := hide (plen_any po V0.length pc w)
  have CD := hide (hdown_any V0 p G i V0.length w h hi (Nat.le_refl _) hl hd)
  have CU := fun V w1 (h1 : Pl w1 p G V) (hv : V.length = V0.length) => hide (hup_any V p G i w1 h1 (by omega) (by omega))
  have HI := hide hi
  clear c0 h hi hl hd
  generalize hn : V0.length = n at *
  have HN := hide hn
  clear hn
  go_enter Try.func47, Try.ntmps47
  go_wp2_with fail
  refine CN.out.mono ?_
  rintro e w9 ⟨rfl, rfl⟩
  clear CN ML
  go_wp2_with fail
  refine CD.out.mono ?_
  rintro e w9 ⟨b, rfl, V, p9, perm, t9, -, went⟩
  have HP9 := hide p9
  have HPM := hide perm
  have T9 := hide t9
  have HWt := hide went
  clear p9 perm t9 went CD
  cases b with
  | true =>
    go_wp2_with fail
    go_end0
    refine ⟨rfl, V, HP9.out, HPM.out, T9.out, ?_⟩
    rcases HWt.out with ⟨-, h⟩ | ⟨h, -⟩
    · rw [HPM.out.length_eq, HN.out]; exact h
    · cases h
  | false =>
    have C := CU V w9 HP9.out (HPM.out.length_eq.trans HN.out)
    clear CU
    go_wp2_with fail
    refine C.out.mono ?_
    rintro e w8 ⟨rfl, V', p8, perm8, t8, up8, -⟩
    have HP8 := hide p8
    have T8 := hide t8
    have HM8 := hide perm8
    have HU8 := hide up8
    clear p8 t8 perm8 up8 C
    go_wp2_with fail
    go_end0
    refine ⟨rfl, V', HP8.out, HM8.out.trans HPM.out, T9.out.trans T8.out fun _ _ h => h, ?_⟩
    rcases HWt.out with ⟨h, -⟩ | ⟨-, e, h⟩
    · cases h
    · have := HM8.out.length_eq
      have := HPM.out.length_eq
      have := HN.out
      have := HI.out
      refine HU8.out _ (by omega) (by omega) ?_
      rw [e, show V'.length = n by omega]
      exact h

set_option maxRecDepth 100000 in
set_option maxHeartbeats 1000000 in
theorem hpush_any (V : List Ho) (p : Nat) (G : Nat → Prop) (x : Ho) (k : Int) (w : World) (h : Pl w p G V) (hh : Hp V V.length) (hb : w.heap[x.b]? = some (.cells #[.string x.n, .int .i64 x.t, .int .i64 k] 84 (0, 0))) (hf : ∀ i, i < V.length → (nh V i).b ≠ x.b) (hl : V.length ≤ 9000000000000) : Calls Try.prog 56 #[pv p, .iface 81 (cp x.b)] w fun e w' => e = .returned (.tuple #[]) ∧ ∃ V', Pl w' p (fun g => G g ∨ g = x.b ∨ w.heap.size ≤ g) V' ∧ V'.Perm (V ++ [x]) ∧ Touch (fun g => G g ∨ g = x.b) w w' ∧ Hp V' V'.length := by
  have CP := hide (ppush_any V p G x k w h hb hf (by omega))
  have MP : ∀ W : World, (method 251 66 (cp p) "Push").run Try.prog W = .ok (105, cp p) W := fun W => mtPush
  have HUP := hide (up_more (x := x) hh)
  have HL := hide hl
  have z1 : wrap64 ((V.length : Int) + 1) = (V.length : Int) + 1 := by unfold wrap64; omega
  have z2 : wrap64 ((V.length : Int) + 1 - 1) = (V.length : Int) := by unfold wrap64; omega
  have z3 : wrap64 ((V.length : Int)) = (V.length : Int) := by unfold wrap64; omega
  have e1 : (V ++ [x]).length = V.length + 1 := by simp
  have HE1 := hide e1
  clear h hh hb hf hl e1
  go_enter Try.func56, Try.ntmps56
  go_wp2_with fail
  refine CP.out.mono ?_
  rintro e w9 ⟨rfl, p9, t9⟩
  have HP9 := hide p9
  have T9 := hide t9
  obtain ⟨po, pc, c0⟩ := p9.len
  rw [HE1.out] at c0
  have ML := mtLen c0
  have CN := hide (plen_any po (V.length + 1) pc w9)
  have CU := hide (hup_any (V ++ [x]) p _ V.length w9 p9 (by simp) (by have := HL.out; simp; omega))
  clear p9 t9 c0 CP MP
  go_wp2_with fail
  refine CN.out.mono ?_
  rintro e w8 ⟨rfl, rfl⟩
  clear CN ML
  go_wp2_with fail
  refine CU.out.mono ?_
  rintro e w8 ⟨rfl, V', p8, perm8, t8, up8, -⟩
  have HP8 := hide p8
  have T8 := hide t8
  have HM8 := hide perm8
  have HU8 := hide up8
  clear p8 t8 perm8 up8 CU
  go_wp2_with fail
  go_end0
  refine ⟨rfl, V', HP8.out, HM8.out, Touch.trans T9.out (T8.out) (fun g hg hh => ?_), ?_⟩
  · rcases hh with h | h | h
    · exact .inl h
    · exact .inr h
    · omega
  · rw [HM8.out.length_eq, HE1.out]
    exact HU8.out _ (by omega) (by rw [HE1.out]; exact Nat.le_refl _) HUP.out

end Go.Proofs.Ytcmigkemhoecfaa

namespace Go.Proofs.Ytcmigkemhoecfaa
open Go.RowKit

set_option maxRecDepth 100000 in
set_option maxHeartbeats 1000000 in
theorem hremove_any (V0 : List Ho) (p : Nat) (G : Nat → Prop) (i n : Nat) (w : World) (h : Pl w p G V0) (hh : Hp V0 V0.length) (hi : i < V0.length) (hn : n + 1 = V0.length) (hl : V0.length ≤ 10000000000000) : Calls Try.prog 53 #[pv p, .int .i64 (i : Int)] w fun e w' => e = .returned (.iface 81 (cp (nh V0 i).b)) ∧ ∃ V1, Pl w' p G (V1.take n) ∧ V1.Perm V0 ∧ nh V1 n = nh V0 i ∧ Touch G w w' ∧ Hp (V1.take n) n ∧ ∃ k : Int, w'.heap[(nh V0 i).b]? = some (.cells #[.string (nh V0 i).n, .int .i64 (nh V0 i).t, .int .i64 k] 84 (0, 0)) := by
  obtain ⟨po, pc, c0⟩ := h.len
  rw [← hn] at c0
  have ML := mtLen c0
  have CN := hide (plen_any po (n + 1) pc w)
  have z1 : wrap64 (n : Int) = (n : Int) := by unfold wrap64; omega
  have MP : ∀ W : World, (method 251 66 (cp p) "Pop").run Try.prog W = .ok (104, cp p) W := fun W => mtPop
  have CP := fun V w1 (h1 : Pl w1 p G V) (hv : V.length = V0.length) => hide (ppop_any V n p G w1 h1 (by omega) (by omega))
  have CD := fun V w1 (h1 : Pl w1 p G V) (hv : V.length = V0.length) (hin : i < n) (hd : Dn V n i) => hide (hdown_any V p G i n w1 h1 hin (by omega) (by omega) hd)
  have CU := fun V w1 (h1 : Pl w1 p G V) (hv : V.length = V0.length) => hide (hup_any V p G i w1 h1 (by omega) (by omega))
  have HP := hide h
  have HH := hide hh
  have HI := hide hi
  have HN := hide hn
  by_cases hin : i = n
  · have C := CP V0 w h rfl
    clear c0 h hi hl hh hn CP CD CU
    subst hin
    go_enter Try.func53, Try.ntmps53
    go_wp2_with fail
    refine CN.out.mono ?_
    rintro e w9 ⟨rfl, rfl⟩
    clear CN ML
    go_wp2_with fail
    refine C.out.mono ?_
    rintro e w8 ⟨rfl, p8, t8⟩
    have HP8 := hide p8
    have T8 := hide t8
    have B8 := hide (t8.heap (HP.out.hs.at_ i HI.out) (fun e => e.2 i HI.out rfl))
    clear p8 t8 C MP
    go_wp2_with fail
    go_ret
    exact ⟨rfl, V0, HP8.out, List.Perm.refl _, rfl, T8.out.mono fun _ _ h => h.1, hp_take (hp_less HH.out (by have := HN.out; omega)), _, B8.out⟩
  · have hlt : i < n := by omega
    have z2 : ¬ (n : Int) = (i : Int) := by omega
    obtain ⟨po', pc', MS, cs⟩ := h.swap i n hi (by omega) hin
    have CS := hide cs
    have HD := hide (dn_last hh hn hlt)
    have SN := hide (show nh (swp V0 i n) n = nh V0 i by rw [swp_nh hi (by omega), if_pos rfl])
    have SP := hide (swp_perm hi (show n < V0.length by omega))
    have HLT := hide hlt
    generalize nh V0 i = x at *
    clear c0 h hi hl hh hn cs hin hlt
    go_enter Try.func53, Try.ntmps53
    go_wp2_with fail
    refine CN.out.mono ?_
    rintro e w9 ⟨rfl, rfl⟩
    clear CN ML
    go_wp2_with fail
    refine CS.out.mono ?_
    rintro e w8 ⟨rfl, p8, t8⟩
    have T8 := hide t8
    have C := CD _ w8 p8 (swp_len _ _ _) HLT.out HD.out
    clear p8 t8 CS MS CD
    go_wp2_with fail
    refine C.out.mono ?_
    rintro e w7 ⟨b, rfl, V, p7, perm7, t7, keep7, went⟩
    have HP7 := hide p7
    have T7 := hide (t7)
    have HM7 := hide (perm7.trans SP.out)
    have HK7 := hide ((keep7 n (Nat.le_refl _)).trans SN.out)
    have HWt := hide went
    clear p7 perm7 t7 keep7 went C
    cases b with
    | true =>
      have C := CP V w7 HP7.out HM7.out.length_eq
      clear CP CU
      go_wp2_with fail
      refine C.out.mono ?_
      rw [HK7.out]
      rintro e w6 ⟨rfl, p6, t6⟩
      have HP6 := hide p6
      have T6 := hide t6
      have nl : n < V.length := by have := HM7.out.length_eq; have := HN.out; omega
      have b6 := t6.heap (HP7.out.hs.at_ n nl) (fun e => e.2 n nl rfl)
      rw [HK7.out] at b6
      have B6 := hide b6
      clear p6 t6 C MP nl b6
      go_wp2_with fail
      go_ret
      refine ⟨rfl, V, HP6.out, HM7.out, HK7.out, (T8.out.trans T7.out fun _ _ h => h).trans (T6.out.mono fun _ _ h => h.1) fun _ _ h => h, ?_⟩
      rcases HWt.out with ⟨-, h⟩ | ⟨h, -⟩
      · exact ⟨hp_take h, _, B6.out⟩
      · cases h
    | false =>
      have C := CU V w7 HP7.out HM7.out.length_eq
      clear CU
      go_wp2_with fail
      refine C.out.mono ?_
      rintro e w6 ⟨rfl, V', p6, perm6, t6, up6, keep6⟩
      have T6 := hide t6
      have HM6 := hide (perm6.trans HM7.out)
      have HU6 := hide (fun h => up6 n HLT.out (by have := HM7.out.length_eq; have := HN.out; omega) h)
      have HK6 := hide ((keep6 n HLT.out).trans HK7.out)
      have C2 := CP V' w6 p6 HM6.out.length_eq
      have HP6 := hide p6
      clear p6 perm6 t6 up6 keep6 C CP
      go_wp2_with fail
      refine C2.out.mono ?_
      rw [HK6.out]
      rintro e w5 ⟨rfl, p5, t5⟩
      have HP5 := hide p5
      have T5 := hide t5
      have nl : n < V'.length := by have := HM6.out.length_eq; have := HN.out; omega
      have b5 := t5.heap (HP6.out.hs.at_ n nl) (fun e => e.2 n nl rfl)
      rw [HK6.out] at b5
      have B5 := hide b5
      clear p5 t5 C2 MP nl b5
      go_wp2_with fail
      go_ret
      refine ⟨rfl, V', HP5.out, HM6.out, HK6.out, ((T8.out.trans T7.out fun _ _ h => h).trans T6.out fun _ _ h => h).trans (T5.out.mono fun _ _ h => h.1) fun _ _ h => h, ?_⟩
      rcases HWt.out with ⟨h, -⟩ | ⟨-, e, h⟩
      · cases h
      · refine ⟨hp_take (HU6.out ?_), _, B5.out⟩
        rw [e]
        exact h

end Go.Proofs.Ytcmigkemhoecfaa
