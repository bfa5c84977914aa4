/- The program's router: take, an event. The program's router: take, a save and a mark. -/
import Derived.Test.YtapnjofplilefaaGreatR1
import Derived.Test.YtapnjofplilefaaGreatYS
import Derived.Deep.CutRange
import Derived.Test.YtapnjofplilefaaGreatK1
namespace Go.Proofs.YtapnjofplilefaaGreat
open Go.RowKit

theorem kn_next {w : World} {k : Nat} {c : Cf} {p s : Int} {m : Value} (h : w.heap[k]? = some (.cells (rrc c p m s) 89 (0, 0))) (s' : Int) : (w.setCell ⟨k, 12, none⟩ (.int .i64 s')).heap[k]? = some (.cells (rrc c p m s') 89 (0, 0)) := by
  have := heap_setCell_row (i := 12) h (.int .i64 s')
  simpa using this
/-- The number goes on. -/
theorem Kno.count {w : World} {k : Nat} {G : Nat → Prop} {c : Cf} {p : Nat} {L : List Int} {s : Int} (h : Kno w k G c p L s) (s' : Int) : Kno (w.setCell ⟨k, 12, none⟩ (.int .i64 s')) k G c p L s' ∧ Touch (fun g => g = k) w (w.setCell ⟨k, 12, none⟩ (.int .i64 s')) := by
  obtain ⟨qc, Gc, h1, h2, h3⟩ := h.ex
  have T := (Touch.refl (fun g => g = k) w).setCell (p := ⟨k, 12, none⟩) (fun _ => rfl) (.int .i64 s')
  exact ⟨⟨⟨qc, Gc, kn_next h1 s', h2.touch T (fun g hg e => (h3 g hg).2 e), h3⟩, h.ok, h.at_, fun g hg => Nat.lt_of_lt_of_le (h.lt g hg) T.size⟩, T⟩
theorem Kno.see {w : World} {k : Nat} {G : Nat → Prop} {c : Cf} {p : Nat} {L : List Int} {s : Int} (h : Kno w k G c p L s) : (∀ W, Calm w W → W.cell? ⟨k, 12, none⟩ = some (.int .i64 s) ∧ W.frozen? ⟨k, 12, none⟩ = false) ∧ ∃ m, ∀ W, Calm w W → W.heap[k]? = some (.cells (rrc c (p : Int) m s) 89 (0, 0)) := by
  obtain ⟨qc, Gc, h1, -, -⟩ := h.ex
  refine ⟨fun W hW => ⟨(rr_cells (hW.at h1)).2.2.2, ?_⟩, _, fun W hW => hW.at h1⟩
  have := hW.at h1
  simp [World.frozen?, this]

set_option maxRecDepth 100000 in
set_option maxHeartbeats 4000000 in
theorem take_1 {w : World} {k : Nat} {G : Nat → Prop} {c : Cf} {p g : Nat} {L : List Int} {s : Int} (x : It) (h : Kno w k G c p L s) (hS : Sit c p g L) (hz : itemZ c x = true) (hk : x.ki = 1) : Calls Tryz.prog 36 #[cp k, itv x] w fun e w' => ∃ a kc, e = .returned (.slice a (itemA p g L s x).length kc) ∧ encSn.Own 65 w' w.heap.size (.slice a (itemA p g L s x).length kc) (itemA p g L s x) ∧ Touch G w w' ∧ Kno w' k G c p (itemL L x) (nxt s) := by
  have hx := itemZ_1 hz hk
  obtain ⟨ki, ke, tm, va, sr⟩ := x
  have hk : ki = 1 := hk
  subst hk
  have HA : Hid (itemA p g L s ⟨1, ke, tm, va, sr⟩ = [⟨(wk p g (hsh ke % g) : Nat), 1, s, ke, tm, va⟩] ∧ itemL L ⟨1, ke, tm, va, sr⟩ = L ∧ nxt s = wrap64 (s + 1)) := hide ⟨rfl, rfl, rfl⟩
  have CC : Hid (∀ W, Calls Tryz.prog 52 #[.string ke] W fun e w' => e = .returned (.string ke) ∧ Touch (fun _ => False) W w') := hide fun W => clone_any ke W (by have : ke.size ≤ 256 := hx; show ke.size ≤ 140737488351232; omega)
  have CO : Hid (∀ W s', (∃ m, W.heap[k]? = some (.cells (rrc c (p : Int) m s') 89 (0, 0))) → Calls Tryz.prog 53 #[cp k, mgv ⟨0, 1, s, ke, tm, va⟩] W fun e w' => ∃ a kc, e = .returned (.slice a 1 kc) ∧ encSn.Own 65 w' W.heap.size (.slice a 1 kc) [⟨(wk p g (hsh ke % g) : Nat), 1, s, ke, tm, va⟩] ∧ Calm W w') := hide fun W s' ⟨m, hm⟩ => toOwner_any ⟨0, 1, s, ke, tm, va⟩ hm hS hx
  have HK := hide h
  generalize itemA p g L s ⟨1, ke, tm, va, sr⟩ = A at *
  generalize itemL L ⟨1, ke, tm, va, sr⟩ = L' at *
  generalize nxt s = s' at *
  have LT := h.lt
  have hkat := h.at_
  have c0 := (h.see.1 _ ((Touch.refl (fun _ => False) w).alloc (.cells (itc ⟨1, ke, tm, va, sr⟩) 60))).1
  have FACTS : Hid (∀ w2, ((w.alloc (.cells (itc ⟨1, ke, tm, va, sr⟩) 60)).alloc (.cells #[.int .i64 3, .int .i64 s, .string ⟨#[]⟩, .int .i64 0, .int .i64 0] 63)) = w2 → Calm w w2 ∧ w2.heap[w.heap.size]? = some (.cells (itc ⟨1, ke, tm, va, sr⟩) 60 (0, 0)) ∧ w2.heap[w.heap.size + 1]? = some (.cells (mgc ⟨0, 3, s, ⟨#[]⟩, 0, 0⟩) 63 (0, 0)) ∧ Kno w2 k G c p L s) := hide fun w2 e => by
    subst e
    have A0 := al_new w (.cells (itc ⟨1, ke, tm, va, sr⟩) 60)
    have T0 := (Touch.refl (fun _ => False) w).alloc (.cells (itc ⟨1, ke, tm, va, sr⟩) 60)
    have S0 := al_size w (.cells (itc ⟨1, ke, tm, va, sr⟩) 60)
    generalize w.alloc (.cells (itc ⟨1, ke, tm, va, sr⟩) 60) = w1 at *
    have T1 := (Touch.refl (fun _ => False) w1).alloc (.cells (mgc ⟨0, 3, s, ⟨#[]⟩, 0, 0⟩) 63)
    exact ⟨T0.tr T1, T1.at A0, by rw [← S0]; exact al_new _ _, h.calm (T0.tr T1)⟩
  clear hz hS hx h
  go_enter Tryz.func36, Tryz.ntmps36
  go_upto_region 2 with fail
  generalize hw2 : ((w.alloc (.cells (itc ⟨1, ke, tm, va, sr⟩) 60)).alloc (.cells #[.int .i64 3, .int .i64 s, .string ⟨#[]⟩, .int .i64 0, .int .i64 0] 63)) = w2 at *
  obtain ⟨T2, I2, M2, K2⟩ := FACTS.out w2 rfl
  obtain ⟨c2, y2⟩ := K2.see.1 w2 (Touch.refl _ _)
  obtain ⟨K3, T3⟩ := K2.count s'
  have hs' : s' = wrap64 (s + 1) := HA.out.2.2
  obtain ⟨w3, e3⟩ : ∃ w3, w2.setCell ⟨k, 12, none⟩ (.int .i64 (wrap64 (s + 1))) = w3 := ⟨_, rfl⟩
  have kD : k < w.heap.size := LT k hkat
  have I3 := T3.heap I2 (by omega)
  have M3 := T3.heap M2 (by omega)
  rw [hs', e3] at K3 T3 I3 M3
  obtain ⟨i0, i1, i2, i3, i4⟩ := it_cells I3
  have HK3 := hide K3
  have HT3 := hide (Touch.trans (T2.mono (S' := G) fun _ _ h => h.elim) (T3.mono fun g _ e => by rw [e]; exact hkat) fun _ _ h => h)
  have HM3 := hide M3
  have HI3 := hide I3
  have HLT := hide LT
  have SZ3 := hide T3.size
  have SZ2 := hide T2.size
  clear FACTS LT I2 M2 K2 T2 T3 K3 I3 M3 HK hs' kD hw2 c0
  generalize hD : w.heap.size = D at *
  have HD := hide hD
  clear hD
  go_wp2_with fail
  refine wp_region_held (S := Touch (fun g => g = D + 1) w3) (by kernel_rfl) ?_
  have cT0 : Calm w3 { w3 with drawn := w3.drawn + 1 } := (Touch.refl _ w3).drew
  have hT0 : Touch (fun g => g = D + 1) w3 { w3 with drawn := w3.drawn + 1 } := (Touch.refl _ w3).drew
  refine wpAnyH_yield 0 29 (.pointer (some ⟨D, 1, none⟩)) rfl rfl (by kernel_rfl) (by kernel_rfl) (by kernel_rfl) (fun _ _ _ h => h) (by kernel_rfl) (fun W hW => by kernel_rfl) (by assumption) rfl rfl ?_
  simp only [Act.put, List.setIfInBounds_toArray, List.set_cons_zero, List.set_cons_succ]
  refine wpAnyH_yield 1 30 (.string ke) rfl rfl (by kernel_rfl) (by kernel_rfl) (by kernel_rfl) (fun _ _ _ h => h) (by kernel_rfl) (fun W hW => by obtain ⟨k0, k1, k2, k3, k4⟩ := it_cells (Touch.heap hW HI3.out (by omega)); go_simp) (by assumption) rfl rfl ?_
  simp only [Act.put, List.setIfInBounds_toArray, List.set_cons_zero, List.set_cons_succ]
  refine wpAnyH_yield 3 32 (.pointer (some ⟨D, 2, none⟩)) rfl rfl (by kernel_rfl) (by kernel_rfl) (by kernel_rfl) (fun _ _ _ h => h) (by kernel_rfl) (fun W hW => by kernel_rfl) (by assumption) rfl rfl ?_
  simp only [Act.put, List.setIfInBounds_toArray, List.set_cons_zero, List.set_cons_succ]
  refine wpAnyH_yield 4 33 (.int .i64 tm) rfl rfl (by kernel_rfl) (by kernel_rfl) (by kernel_rfl) (fun _ _ _ h => h) (by kernel_rfl) (fun W hW => by obtain ⟨k0, k1, k2, k3, k4⟩ := it_cells (Touch.heap hW HI3.out (by omega)); go_simp) (by assumption) rfl rfl ?_
  simp only [Act.put, List.setIfInBounds_toArray, List.set_cons_zero, List.set_cons_succ]
  refine wpAnyH_yield 5 34 (.pointer (some ⟨D, 3, none⟩)) rfl rfl (by kernel_rfl) (by kernel_rfl) (by kernel_rfl) (fun _ _ _ h => h) (by kernel_rfl) (fun W hW => by kernel_rfl) (by assumption) rfl rfl ?_
  simp only [Act.put, List.setIfInBounds_toArray, List.set_cons_zero, List.set_cons_succ]
  refine wpAnyH_yield 6 35 (.int .i64 va) rfl rfl (by kernel_rfl) (by kernel_rfl) (by kernel_rfl) (fun _ _ _ h => h) (by kernel_rfl) (fun W hW => by obtain ⟨k0, k1, k2, k3, k4⟩ := it_cells (Touch.heap hW HI3.out (by omega)); go_simp) (by assumption) rfl rfl ?_
  simp only [Act.put, List.setIfInBounds_toArray, List.set_cons_zero, List.set_cons_succ]
  refine wpAnyH_yield 7 36 (.pointer (some ⟨D + 1, 0, none⟩)) rfl rfl (by kernel_rfl) (by kernel_rfl) (by kernel_rfl) (fun _ _ _ h => h) (by kernel_rfl) (fun W hW => by kernel_rfl) (by assumption) rfl rfl ?_
  simp only [Act.put, List.setIfInBounds_toArray, List.set_cons_zero, List.set_cons_succ]
  refine wpAnyH_enter 2 31 52 #[.string ke] rfl rfl (by kernel_rfl) (by kernel_rfl) (by kernel_rfl) ?_
  refine (CC.out _).mono ?_
  rintro r w8 ⟨rfl, t8⟩
  have c8 : Calm w3 w8 := cT0.tr t8
  have h8 : Touch (fun g => g = D + 1) w3 w8 := c8.mono fun _ _ h => h.elim
  have M8 := c8.at HM3.out
  have N8 := heap_setCell_row (i := 0) M8 (.int .i64 1)
  have N9 := heap_setCell_row (i := 2) N8 (.string ke)
  have N10 := heap_setCell_row (i := 3) N9 (.int .i64 tm)
  have N11 := heap_setCell_row (i := 4) N10 (.int .i64 va)
  have h9 := h8.setCell (p := ⟨D + 1, 0, none⟩) (fun _ => rfl) (.int .i64 1)
  have h10 := h9.setCell (p := ⟨D + 1, 2, none⟩) (fun _ => rfl) (.string ke)
  have h11 := h10.setCell (p := ⟨D + 1, 3, none⟩) (fun _ => rfl) (.int .i64 tm)
  have h12 := h11.setCell (p := ⟨D + 1, 4, none⟩) (fun _ => rfl) (.int .i64 va)
  refine ⟨_, rfl, h8, ?_⟩
  simp only [Act.put, List.setIfInBounds_toArray, List.set_cons_zero, List.set_cons_succ]
  obtain ⟨⟨k0, -⟩, f0⟩ := mg_cells M8
  have f0 := f0 0
  refine wpAnyH_do 8 (w8.setCell ⟨D + 1, 0, none⟩ (.int .i64 1)) rfl (by kernel_rfl) (by kernel_rfl) (fun K hK => by unfold Oper.wp; go_simp; exact hK) h9 ?_
  clear k0 f0
  refine wpAnyH_yield 9 37 (.pointer (some ⟨D + 1, 2, none⟩)) rfl rfl (by kernel_rfl) (by kernel_rfl) (by kernel_rfl) (fun _ _ _ h => h) (by kernel_rfl) (fun W hW => by kernel_rfl) (by assumption) rfl rfl ?_
  simp only [Act.put, List.setIfInBounds_toArray, List.set_cons_zero, List.set_cons_succ]
  have k2 : (w8.setCell ⟨D + 1, 0, none⟩ (.int .i64 1)).cell? ⟨D + 1, 2, none⟩ = some (.string ⟨#[]⟩) := by simp [World.cell?, N8]
  have f2 : (w8.setCell ⟨D + 1, 0, none⟩ (.int .i64 1)).frozen? ⟨D + 1, 2, none⟩ = false := by simp [World.frozen?, N8]
  generalize w8.setCell ⟨D + 1, 0, none⟩ (.int .i64 1) = w9 at *
  refine wpAnyH_do 10 (w9.setCell ⟨D + 1, 2, none⟩ (.string ke)) rfl (by kernel_rfl) (by kernel_rfl) (fun K hK => by unfold Oper.wp; go_simp; exact hK) h10 ?_
  refine wpAnyH_yield 11 38 (.pointer (some ⟨D + 1, 3, none⟩)) rfl rfl (by kernel_rfl) (by kernel_rfl) (by kernel_rfl) (fun _ _ _ h => h) (by kernel_rfl) (fun W hW => by kernel_rfl) (by assumption) rfl rfl ?_
  simp only [Act.put, List.setIfInBounds_toArray, List.set_cons_zero, List.set_cons_succ]
  have k3 : (w9.setCell ⟨D + 1, 2, none⟩ (.string ke)).cell? ⟨D + 1, 3, none⟩ = some (.int .i64 0) := by simp [World.cell?, N9]
  have f3 : (w9.setCell ⟨D + 1, 2, none⟩ (.string ke)).frozen? ⟨D + 1, 3, none⟩ = false := by simp [World.frozen?, N9]
  generalize w9.setCell ⟨D + 1, 2, none⟩ (.string ke) = w10 at *
  refine wpAnyH_do 12 (w10.setCell ⟨D + 1, 3, none⟩ (.int .i64 tm)) rfl (by kernel_rfl) (by kernel_rfl) (fun K hK => by unfold Oper.wp; go_simp; exact hK) h11 ?_
  refine wpAnyH_yield 13 39 (.pointer (some ⟨D + 1, 4, none⟩)) rfl rfl (by kernel_rfl) (by kernel_rfl) (by kernel_rfl) (fun _ _ _ h => h) (by kernel_rfl) (fun W hW => by kernel_rfl) (by assumption) rfl rfl ?_
  simp only [Act.put, List.setIfInBounds_toArray, List.set_cons_zero, List.set_cons_succ]
  have k4 : (w10.setCell ⟨D + 1, 3, none⟩ (.int .i64 tm)).cell? ⟨D + 1, 4, none⟩ = some (.int .i64 0) := by simp [World.cell?, N10]
  have f4 : (w10.setCell ⟨D + 1, 3, none⟩ (.int .i64 tm)).frozen? ⟨D + 1, 4, none⟩ = false := by simp [World.frozen?, N10]
  generalize w10.setCell ⟨D + 1, 3, none⟩ (.int .i64 tm) = w11 at *
  refine wpAnyH_do 14 (w11.setCell ⟨D + 1, 4, none⟩ (.int .i64 va)) rfl (by kernel_rfl) (by kernel_rfl) (fun K hK => by unfold Oper.wp; go_simp; exact hK) h12 ?_
  generalize w11.setCell ⟨D + 1, 4, none⟩ (.int .i64 va) = w12 at *
  refine wpAnyH_done (by kernel_rfl) ?_ _
  have N12 : w12.heap[D + 1]? = some (.cells (mgc ⟨0, 1, s, ke, tm, va⟩) 63 (0, 0)) := by rw [N11]; rfl
  obtain ⟨⟨m0, m1, m2, m3, m4⟩, -⟩ := mg_cells N12
  have K12 := hide (HK3.out.touch h12 (fun g hg e => by have := HLT.out g hg; omega))
  obtain ⟨mm, hmm⟩ := K12.out.see.2
  have C2 := hide (CO.out w12 _ ⟨mm, hmm w12 (Touch.refl _ _)⟩)
  have HT12 := hide (Touch.trans HT3.out (h12.mono (S' := fun g => G g ∨ g = D + 1) fun _ _ h => .inr h) fun g hg e => by rcases e with e | e; exact e; have := HD.out; omega)
  have GE : Hid (D ≤ w12.heap.size) := hide (by have := h12.size; have := SZ3.out; have := SZ2.out; have := HD.out; omega)
  clear k2 f2 k3 f3 k4 f4 N8 N9 N10 N11 N12 M8 h8 h9 h10 h11 h12 c8 t8 hT0 cT0 hmm CO CC HK3 HT3 HM3 HI3 i0 i1 i2 i3 i4 c2 y2
  go_wp2_with fail
  refine C2.out.mono ?_
  rintro e w13 ⟨a, kc, rfl, ow, t13⟩
  have OW := hide (Rc.Own.base ow GE.out)
  have KF := hide (K12.out.calm t13)
  have TF := hide (Touch.trans HT12.out (t13.mono (S' := G) fun _ _ h => h.elim) fun _ _ h => h)
  clear ow t13 HT12 GE C2 K12
  go_wp2_with fail
  go_ret
  obtain ⟨rfl, rfl, rfl⟩ := HA.out
  exact ⟨a, kc, rfl, by rw [HD.out]; exact OW.out, TF.out, KF.out⟩

end Go.Proofs.YtapnjofplilefaaGreat

namespace Go.Proofs.YtapnjofplilefaaGreat
open Go.RowKit

set_option maxRecDepth 100000 in
set_option maxHeartbeats 4000000 in
theorem take_3 {w : World} {k : Nat} {G : Nat → Prop} {c : Cf} {p g : Nat} {L : List Int} {s : Int} (x : It) (h : Kno w k G c p L s) (hS : Sit c p g L) (hk : x.ki = 3) : Calls Tryz.prog 36 #[cp k, itv x] w fun e w' => ∃ a kc, e = .returned (.slice a (itemA p g L s x).length kc) ∧ encSn.Own 65 w' w.heap.size (.slice a (itemA p g L s x).length kc) (itemA p g L s x) ∧ Touch G w w' ∧ Kno w' k G c p (itemL L x) (nxt s) := by
  have hz := hS
  have hx := hS
  obtain ⟨ki, ke, tm, va, sr⟩ := x
  have hk : ki = 3 := hk
  subst hk
  have HA : Hid (itemA p g L s ⟨3, ke, tm, va, sr⟩ = allS p ⟨0, 3, s, ⟨#[]⟩, 0, 0⟩ ∧ itemL L ⟨3, ke, tm, va, sr⟩ = L ∧ nxt s = wrap64 (s + 1)) := hide ⟨rfl, rfl, rfl⟩
  have HLA : Hid ((itemA p g L s ⟨3, ke, tm, va, sr⟩).length = p) := hide (all_len _ _)
  have CO : Hid (∀ W s', (∃ m, W.heap[k]? = some (.cells (rrc c (p : Int) m s') 89 (0, 0))) → Calls Tryz.prog 55 #[cp k, mgv ⟨0, 3, s, ⟨#[]⟩, 0, 0⟩] W fun e w' => ∃ a kc, e = .returned (.slice a p kc) ∧ encSn.Own 65 w' W.heap.size (.slice a p kc) (allS p ⟨0, 3, s, ⟨#[]⟩, 0, 0⟩) ∧ Calm W w') := hide fun W s' ⟨m, hm⟩ => toAll_any ⟨0, 3, s, ⟨#[]⟩, 0, 0⟩ hm hS.may.p1 hS.p_le
  have HK := hide h
  generalize itemA p g L s ⟨3, ke, tm, va, sr⟩ = A at *
  generalize itemL L ⟨3, ke, tm, va, sr⟩ = L' at *
  generalize nxt s = s' at *
  have LT := h.lt
  have hkat := h.at_
  have c0 := (h.see.1 _ ((Touch.refl (fun _ => False) w).alloc (.cells (itc ⟨3, ke, tm, va, sr⟩) 60))).1
  have FACTS : Hid (∀ w2, ((w.alloc (.cells (itc ⟨3, ke, tm, va, sr⟩) 60)).alloc (.cells #[.int .i64 3, .int .i64 s, .string ⟨#[]⟩, .int .i64 0, .int .i64 0] 63)) = w2 → Calm w w2 ∧ w2.heap[w.heap.size]? = some (.cells (itc ⟨3, ke, tm, va, sr⟩) 60 (0, 0)) ∧ w2.heap[w.heap.size + 1]? = some (.cells (mgc ⟨0, 3, s, ⟨#[]⟩, 0, 0⟩) 63 (0, 0)) ∧ Kno w2 k G c p L s) := hide fun w2 e => by
    subst e
    have A0 := al_new w (.cells (itc ⟨3, ke, tm, va, sr⟩) 60)
    have T0 := (Touch.refl (fun _ => False) w).alloc (.cells (itc ⟨3, ke, tm, va, sr⟩) 60)
    have S0 := al_size w (.cells (itc ⟨3, ke, tm, va, sr⟩) 60)
    generalize w.alloc (.cells (itc ⟨3, ke, tm, va, sr⟩) 60) = w1 at *
    have T1 := (Touch.refl (fun _ => False) w1).alloc (.cells (mgc ⟨0, 3, s, ⟨#[]⟩, 0, 0⟩) 63)
    exact ⟨T0.tr T1, T1.at A0, by rw [← S0]; exact al_new _ _, h.calm (T0.tr T1)⟩
  clear hz hS hx h
  go_enter Tryz.func36, Tryz.ntmps36
  go_upto_region 2 with fail
  generalize hw2 : ((w.alloc (.cells (itc ⟨3, ke, tm, va, sr⟩) 60)).alloc (.cells #[.int .i64 3, .int .i64 s, .string ⟨#[]⟩, .int .i64 0, .int .i64 0] 63)) = w2 at *
  obtain ⟨T2, I2, M2, K2⟩ := FACTS.out w2 rfl
  obtain ⟨c2, y2⟩ := K2.see.1 w2 (Touch.refl _ _)
  obtain ⟨K3, T3⟩ := K2.count s'
  have hs' : s' = wrap64 (s + 1) := HA.out.2.2
  obtain ⟨w3, e3⟩ : ∃ w3, w2.setCell ⟨k, 12, none⟩ (.int .i64 (wrap64 (s + 1))) = w3 := ⟨_, rfl⟩
  have kD : k < w.heap.size := LT k hkat
  have I3 := T3.heap I2 (by omega)
  have M3 := T3.heap M2 (by omega)
  rw [hs', e3] at K3 T3 I3 M3
  obtain ⟨i0, i1, i2, i3, i4⟩ := it_cells I3
  have HK3 := hide K3
  have HT3 := hide (Touch.trans (T2.mono (S' := G) fun _ _ h => h.elim) (T3.mono fun g _ e => by rw [e]; exact hkat) fun _ _ h => h)
  have HM3 := hide M3
  have HI3 := hide I3
  have HLT := hide LT
  have SZ3 := hide T3.size
  have SZ2 := hide T2.size
  clear FACTS LT I2 M2 K2 T2 T3 K3 I3 M3 HK hs' kD hw2 c0
  generalize hD : w.heap.size = D at *
  have HD := hide hD
  clear hD
  have K3' := hide HK3.out
  obtain ⟨mm, hmm⟩ := K3'.out.see.2
  have C2 := hide (CO.out w3 _ ⟨mm, hmm w3 (Touch.refl _ _)⟩)
  obtain ⟨⟨m0, m1, m2, m3, m4⟩, -⟩ := mg_cells HM3.out
  have GE : Hid (D ≤ w3.heap.size) := hide (by have := SZ3.out; have := SZ2.out; have := HD.out; omega)
  clear hmm CO HK3 HM3 HI3 HLT i1 i2 i3 i4
  go_wp2_with fail
  refine C2.out.mono ?_
  rintro e w13 ⟨a, kc, rfl, ow, t13⟩
  have OW := hide (Rc.Own.base ow GE.out)
  have KF := hide (K3'.out.calm t13)
  have TF := hide (Touch.trans HT3.out (t13.mono (S' := G) fun _ _ h => h.elim) fun _ _ h => h)
  clear ow t13 HT3 GE C2 K3'
  go_wp2_with fail
  go_ret
  obtain ⟨rfl, rfl, rfl⟩ := HA.out
  exact ⟨a, kc, by rw [HLA.out]; rfl, by rw [HD.out, HLA.out]; exact OW.out, TF.out, KF.out⟩

/-- A mark in an item is a time. -/
theorem itemZ_2t {c : Cf} {x : It} (h : itemZ c x = true) (hk : x.ki = 2) : timC x.tm = true := by
  unfold itemZ at h
  rw [if_neg (by omega), if_pos hk] at h
  simp only [Bool.and_eq_true] at h
  have : timZ x.tm = true := h.2.2.2
  unfold timZ at this
  unfold timC
  exact this

set_option maxRecDepth 100000 in
set_option maxHeartbeats 4000000 in
theorem take_2 {w : World} {k : Nat} {G : Nat → Prop} {c : Cf} {p g : Nat} {L : List Int} {s : Int} (x : It) (h : Kno w k G c p L s) (hS : Sit c p g L) (hz : itemZ c x = true) (hk : x.ki = 2) : Calls Tryz.prog 36 #[cp k, itv x] w fun e w' => ∃ a kc, e = .returned (.slice a (itemA p g L s x).length kc) ∧ encSn.Own 65 w' w.heap.size (.slice a (itemA p g L s x).length kc) (itemA p g L s x) ∧ Touch G w w' ∧ Kno w' k G c p (itemL L x) (nxt s) := by
  have hx := itemZ_2t hz hk
  have hq := itemZ_2 hz hk
  obtain ⟨ki, ke, tm, va, sr⟩ := x
  have hk : ki = 2 := hk
  subst hk
  obtain ⟨i, rfl⟩ : ∃ i : Nat, sr = (i : Int) := ⟨sr.toNat, by have := hq.1; have : 0 ≤ sr := this; omega⟩
  have hi : i < L.length := by have := hq.2; have := hS.so; have : (i : Int) < c.so := hq.2; omega
  have hx : timC tm = true := hx
  have eL : plM L ⟨2, ke, tm, va, (i : Int)⟩ = L.set i (max (L.getD i 0) tm) := by unfold plM; simp
  have HA : Hid (itemA p g L s ⟨2, ke, tm, va, (i : Int)⟩ = (if mkN L = mkN (L.set i (max (L.getD i 0) tm)) then [] else allS p ⟨0, 2, s, ⟨#[]⟩, mkN (L.set i (max (L.getD i 0) tm)), 0⟩) ∧ itemL L ⟨2, ke, tm, va, (i : Int)⟩ = L.set i (max (L.getD i 0) tm) ∧ nxt s = wrap64 (s + 1)) := hide ⟨by rw [← eL]; rfl, by rw [← eL]; rfl, rfl⟩
  have CO : Hid (∀ W s' tx, (∃ m, W.heap[k]? = some (.cells (rrc c (p : Int) m s') 89 (0, 0))) → Calls Tryz.prog 55 #[cp k, mgv ⟨0, 2, s, ⟨#[]⟩, tx, 0⟩] W fun e w' => ∃ a kc, e = .returned (.slice a p kc) ∧ encSn.Own 65 w' W.heap.size (.slice a p kc) (allS p ⟨0, 2, s, ⟨#[]⟩, tx, 0⟩) ∧ Calm W w') := hide fun W s' tx ⟨m, hm⟩ => toAll_any ⟨0, 2, s, ⟨#[]⟩, tx, 0⟩ hm hS.may.p1 hS.p_le
  have HK := hide h
  have HOK := hide (ofB_set (i := i) h.ok hx)
  have SET : Hid (∀ W q Gc, Clk W q Gc L [] → Calls Tryz.prog 54 #[cp q, .int .i64 (i : Int), .int .i64 tm] W fun e w' => e = .returned (.tuple #[.int .i64 (mkN L), .int .i64 (mkN (L.set i (max (L.getD i 0) tm))), .int .i64 0]) ∧ Nxs W q Gc (L.set i (max (L.getD i 0) tm)) [] w') := hide fun W q Gc hc => set_same i tm hc hi hx
  have ALN := hide (fun tx => all_len p ⟨0, 2, s, ⟨#[]⟩, tx, 0⟩)
  clear eL hi hq
  generalize itemA p g L s ⟨2, ke, tm, va, (i : Int)⟩ = A at *
  generalize itemL L ⟨2, ke, tm, va, (i : Int)⟩ = L1 at *
  generalize L.set i (max (L.getD i 0) tm) = L2 at *
  generalize nxt s = s' at *
  have LT := h.lt
  have hkat := h.at_
  have c0 := (h.see.1 _ ((Touch.refl (fun _ => False) w).alloc (.cells (itc ⟨2, ke, tm, va, (i : Int)⟩) 60))).1
  have FACTS : Hid (∀ w2, ((w.alloc (.cells (itc ⟨2, ke, tm, va, (i : Int)⟩) 60)).alloc (.cells #[.int .i64 3, .int .i64 s, .string ⟨#[]⟩, .int .i64 0, .int .i64 0] 63)) = w2 → Calm w w2 ∧ w2.heap[w.heap.size]? = some (.cells (itc ⟨2, ke, tm, va, (i : Int)⟩) 60 (0, 0)) ∧ w2.heap[w.heap.size + 1]? = some (.cells (mgc ⟨0, 3, s, ⟨#[]⟩, 0, 0⟩) 63 (0, 0)) ∧ Kno w2 k G c p L s) := hide fun w2 e => by
    subst e
    have A0 := al_new w (.cells (itc ⟨2, ke, tm, va, (i : Int)⟩) 60)
    have T0 := (Touch.refl (fun _ => False) w).alloc (.cells (itc ⟨2, ke, tm, va, (i : Int)⟩) 60)
    have S0 := al_size w (.cells (itc ⟨2, ke, tm, va, (i : Int)⟩) 60)
    generalize w.alloc (.cells (itc ⟨2, ke, tm, va, (i : Int)⟩) 60) = w1 at *
    have T1 := (Touch.refl (fun _ => False) w1).alloc (.cells (mgc ⟨0, 3, s, ⟨#[]⟩, 0, 0⟩) 63)
    exact ⟨T0.tr T1, T1.at A0, by rw [← S0]; exact al_new _ _, h.calm (T0.tr T1)⟩
  clear hz hS hx h
  go_enter Tryz.func36, Tryz.ntmps36
  go_upto_region 2 with fail
  generalize hw2 : ((w.alloc (.cells (itc ⟨2, ke, tm, va, (i : Int)⟩) 60)).alloc (.cells #[.int .i64 3, .int .i64 s, .string ⟨#[]⟩, .int .i64 0, .int .i64 0] 63)) = w2 at *
  obtain ⟨T2, I2, M2, K2⟩ := FACTS.out w2 rfl
  obtain ⟨c2, y2⟩ := K2.see.1 w2 (Touch.refl _ _)
  obtain ⟨K3, T3⟩ := K2.count s'
  have hs' : s' = wrap64 (s + 1) := HA.out.2.2
  obtain ⟨w3, e3⟩ : ∃ w3, w2.setCell ⟨k, 12, none⟩ (.int .i64 (wrap64 (s + 1))) = w3 := ⟨_, rfl⟩
  have kD : k < w.heap.size := LT k hkat
  have I3 := T3.heap I2 (by omega)
  have M3 := T3.heap M2 (by omega)
  rw [hs', e3] at K3 T3 I3 M3
  obtain ⟨i0, i1, i2, i3, i4⟩ := it_cells I3
  have HK3 := hide K3
  have HT3 := hide (Touch.trans (T2.mono (S' := G) fun _ _ h => h.elim) (T3.mono fun g _ e => by rw [e]; exact hkat) fun _ _ h => h)
  have HM3 := hide M3
  have HI3 := hide I3
  have HLT := hide LT
  have SZ3 := hide T3.size
  have SZ2 := hide T2.size
  clear FACTS LT I2 M2 K2 T2 T3 K3 I3 M3 HK hs' kD hw2 c0
  generalize hD : w.heap.size = D at *
  have HD := hide hD
  clear hD
  obtain ⟨qc, Gc, hk3, hc3, hg3⟩ := HK3.out.ex
  have CS := hide (fun W (hW : Calm w3 W) => SET.out W qc Gc (hc3.calm hW))
  have GL : Hid (∀ g, Gc g → g < D ∧ g ≠ k ∧ G g) := hide fun g hg => ⟨HLT.out g (hg3 g hg).1, (hg3 g hg).2, (hg3 g hg).1⟩
  have HK4 := hide hk3
  have KD : Hid (k < D) := hide (HLT.out k hkat)
  clear SET hc3 hg3 hk3 i1 i2 i3 i4
  go_wp2_with fail
  clear i0
  refine wp_region_held (S := Touch Gc w3) (by kernel_rfl) ?_
  have cT0 : Calm w3 { w3 with drawn := w3.drawn + 1 } := (Touch.refl _ w3).drew
  have hT0 : Touch Gc w3 { w3 with drawn := w3.drawn + 1 } := (Touch.refl _ w3).drew
  refine wpAnyH_yield 0 44 (.pointer (some ⟨k, 0, none⟩)) rfl rfl (by kernel_rfl) (by kernel_rfl) (by kernel_rfl) (fun _ _ _ h => h) (by kernel_rfl) (fun W hW => by kernel_rfl) (by assumption) rfl rfl ?_
  simp only [Act.put, List.setIfInBounds_toArray, List.set_cons_zero, List.set_cons_succ]
  refine wpAnyH_yield 1 45 (.pointer (some ⟨k, 0, none⟩)) rfl rfl (by kernel_rfl) (by kernel_rfl) (by kernel_rfl) (fun _ _ _ h => h) (by kernel_rfl) (fun W hW => by go_simp) (by assumption) rfl rfl ?_
  simp only [Act.put, List.setIfInBounds_toArray, List.set_cons_zero, List.set_cons_succ]
  refine wpAnyH_yield 2 46 (.pointer (some ⟨k, 11, none⟩)) rfl rfl (by kernel_rfl) (by kernel_rfl) (by kernel_rfl) (fun _ _ _ h => h) (by kernel_rfl) (fun W hW => by go_simp) (by assumption) rfl rfl ?_
  simp only [Act.put, List.setIfInBounds_toArray, List.set_cons_zero, List.set_cons_succ]
  refine wpAnyH_yield 3 47 (cp qc) rfl rfl (by kernel_rfl) (by kernel_rfl) (by kernel_rfl) (fun _ _ _ h => h) (by kernel_rfl) (fun W hW => by obtain ⟨-, -, k0, -⟩ := rr_cells (Touch.heap hW HK4.out (fun h => (GL.out k h).2.1 rfl)); go_simp) (by assumption) rfl rfl ?_
  simp only [Act.put, List.setIfInBounds_toArray, List.set_cons_zero, List.set_cons_succ]
  refine wpAnyH_yield 4 48 (.pointer (some ⟨D, 4, none⟩)) rfl rfl (by kernel_rfl) (by kernel_rfl) (by kernel_rfl) (fun _ _ _ h => h) (by kernel_rfl) (fun W hW => by kernel_rfl) (by assumption) rfl rfl ?_
  simp only [Act.put, List.setIfInBounds_toArray, List.set_cons_zero, List.set_cons_succ]
  refine wpAnyH_yield 5 49 (.int .i64 (i : Int)) rfl rfl (by kernel_rfl) (by kernel_rfl) (by kernel_rfl) (fun _ _ _ h => h) (by kernel_rfl) (fun W hW => by obtain ⟨k0, k1, k2, k3, k4⟩ := it_cells (Touch.heap hW HI3.out (fun h => by have := (GL.out _ h).1; omega)); go_simp) (by assumption) rfl rfl ?_
  simp only [Act.put, List.setIfInBounds_toArray, List.set_cons_zero, List.set_cons_succ]
  refine wpAnyH_yield 6 50 (.pointer (some ⟨D, 2, none⟩)) rfl rfl (by kernel_rfl) (by kernel_rfl) (by kernel_rfl) (fun _ _ _ h => h) (by kernel_rfl) (fun W hW => by kernel_rfl) (by assumption) rfl rfl ?_
  simp only [Act.put, List.setIfInBounds_toArray, List.set_cons_zero, List.set_cons_succ]
  refine wpAnyH_yield 7 51 (.int .i64 tm) rfl rfl (by kernel_rfl) (by kernel_rfl) (by kernel_rfl) (fun _ _ _ h => h) (by kernel_rfl) (fun W hW => by obtain ⟨k0, k1, k2, k3, k4⟩ := it_cells (Touch.heap hW HI3.out (fun h => by have := (GL.out _ h).1; omega)); go_simp) (by assumption) rfl rfl ?_
  simp only [Act.put, List.setIfInBounds_toArray, List.set_cons_zero, List.set_cons_succ]
  refine wpAnyH_enter 8 52 54 #[cp qc, .int .i64 (i : Int), .int .i64 tm] rfl rfl (by kernel_rfl) (by kernel_rfl) (by kernel_rfl) ?_
  refine (CS.out _ cT0).mono ?_
  rintro r w4 ⟨rfl, T4, C4⟩
  have h8 : Touch Gc w3 w4 := (cT0.mono (S' := Gc) fun _ _ h => h.elim).trans T4 fun _ _ h => h
  refine ⟨_, rfl, h8, ?_⟩
  simp only [Act.put, List.setIfInBounds_toArray, List.set_cons_zero, List.set_cons_succ]
  refine wpAnyH_yield 9 43 (.tuple #[.int .i64 (mkN L), .int .i64 (mkN L2), .int .i64 0]) rfl rfl (by kernel_rfl) (by kernel_rfl) (by kernel_rfl) (fun _ _ _ h => h) (by kernel_rfl) (fun W hW => by kernel_rfl) (by assumption) rfl rfl ?_
  simp only [Act.put, List.setIfInBounds_toArray, List.set_cons_zero, List.set_cons_succ]
  refine wpAnyH_yield 10 53 (.int .i64 (mkN L)) rfl rfl (by kernel_rfl) (by kernel_rfl) (by kernel_rfl) (fun _ _ _ h => h) (by kernel_rfl) (fun W hW => by kernel_rfl) (by assumption) rfl rfl ?_
  simp only [Act.put, List.setIfInBounds_toArray, List.set_cons_zero, List.set_cons_succ]
  refine wpAnyH_yield 11 54 (.int .i64 (mkN L2)) rfl rfl (by kernel_rfl) (by kernel_rfl) (by kernel_rfl) (fun _ _ _ h => h) (by kernel_rfl) (fun W hW => by kernel_rfl) (by assumption) rfl rfl ?_
  simp only [Act.put, List.setIfInBounds_toArray, List.set_cons_zero, List.set_cons_succ]
  refine wpAnyH_yield 12 55 (.int .i64 0) rfl rfl (by kernel_rfl) (by kernel_rfl) (by kernel_rfl) (fun _ _ _ h => h) (by kernel_rfl) (fun W hW => by kernel_rfl) (by assumption) rfl rfl ?_
  simp only [Act.put, List.setIfInBounds_toArray, List.set_cons_zero, List.set_cons_succ]
  refine wpAnyH_yield 13 6 (.int .i64 (mkN L)) rfl rfl (by kernel_rfl) (by kernel_rfl) (by kernel_rfl) (fun _ _ _ h => h) (by kernel_rfl) (fun W hW => by kernel_rfl) (by assumption) rfl rfl ?_
  simp only [Act.put, List.setIfInBounds_toArray, List.set_cons_zero, List.set_cons_succ]
  refine wpAnyH_yield 14 7 (.int .i64 (mkN L2)) rfl rfl (by kernel_rfl) (by kernel_rfl) (by kernel_rfl) (fun _ _ _ h => h) (by kernel_rfl) (fun W hW => by kernel_rfl) (by assumption) rfl rfl ?_
  simp only [Act.put, List.setIfInBounds_toArray, List.set_cons_zero, List.set_cons_succ]
  refine wpAnyH_yield 15 8 (.int .i64 0) rfl rfl (by kernel_rfl) (by kernel_rfl) (by kernel_rfl) (fun _ _ _ h => h) (by kernel_rfl) (fun W hW => by kernel_rfl) (by assumption) rfl rfl ?_
  simp only [Act.put, List.setIfInBounds_toArray, List.set_cons_zero, List.set_cons_succ]
  refine wpAnyH_done (by kernel_rfl) ?_ _
  have M4 := h8.heap HM3.out (fun h => by have := (GL.out _ h).1; omega)
  have SZ4 := h8.size
  have K4 : Kno w4 k G c p L2 s' := by
    have q4 := h8.heap HK4.out (fun h => (GL.out k h).2.1 rfl)
    have hs9 : s' = wrap64 (s + 1) := HA.out.2.2
    rw [hs9]
    exact ⟨⟨qc, Gc, q4, C4, fun g hg => ⟨(GL.out g hg).2.2, (GL.out g hg).2.1⟩⟩, HOK.out, hkat, fun g hg => by have := HLT.out g hg; have := SZ3.out; have := SZ2.out; have := HD.out; omega⟩
  have HK5 := hide K4
  have HM4 := hide M4
  have HT4 := hide (Touch.trans HT3.out (h8.mono (S' := G) fun g _ hg => (GL.out g hg).2.2) fun _ _ h => h)
  have GE : Hid (D ≤ w3.heap.size ∧ D ≤ w4.heap.size) := hide (by have := SZ3.out; have := SZ2.out; have := HD.out; omega)
  have NG : Hid (¬ G (D + 1)) := hide (fun h => absurd (HLT.out _ h) (by omega))
  clear h8 T4 C4 K4 M4 SZ4 cT0 hT0 CS HK4 GL KD HOK HK3 HT3 HM3 HI3 HLT
  by_cases he : mkN L = mkN L2
  · have HA1 : Hid (A = []) := hide (by rw [HA.out.1, if_pos he])
    generalize mkN L2 = N2 at *
    subst he
    go_wp2_with fail
    go_ret
    obtain ⟨-, rfl, -⟩ := HA.out
    obtain rfl := HA1.out
    exact ⟨none, 0, rfl, Rc.Own.nil _ _ _, HT4.out, HK5.out⟩
  · have HA1 : Hid (A = allS p ⟨0, 2, s, ⟨#[]⟩, mkN L2, 0⟩) := hide (by rw [HA.out.1, if_neg he])
    generalize mkN L = N1 at *
    generalize mkN L2 = N2 at *
    obtain ⟨⟨m0, m1, m2, m3, m4⟩, fz⟩ := mg_cells HM4.out
    have f0 := fz 0
    have f3 := fz 3
    have P1 := heap_setCell_row (i := 0) HM4.out (.int .i64 2)
    have P2 := heap_setCell_row (i := 3) P1 (.int .i64 N2)
    have T5 := ((Touch.refl (fun g => g = D + 1) w4).setCell (p := ⟨D + 1, 0, none⟩) (fun _ => rfl) (.int .i64 2)).setCell (p := ⟨D + 1, 3, none⟩) (fun _ => rfl) (.int .i64 N2)
    obtain ⟨w5, e5⟩ : ∃ w5, (w4.setCell ⟨D + 1, 0, none⟩ (.int .i64 2)).setCell ⟨D + 1, 3, none⟩ (.int .i64 N2) = w5 := ⟨_, rfl⟩
    rw [e5] at P2 T5
    have P3 : w5.heap[D + 1]? = some (.cells (mgc ⟨0, 2, s, ⟨#[]⟩, N2, 0⟩) 63 (0, 0)) := by rw [P2]; rfl
    have K5 := hide (HK5.out.touch T5 (fun g hg e => NG.out (by rw [← e]; exact hg)))
    obtain ⟨mm, hmm⟩ := K5.out.see.2
    have C2 := hide (CO.out w5 _ N2 ⟨mm, hmm w5 (Touch.refl _ _)⟩)
    obtain ⟨⟨l0, l1, l2, l3, l4⟩, -⟩ := mg_cells P3
    have GE5 : Hid (D ≤ w5.heap.size) := hide (by have := GE.out.2; have := T5.size; omega)
    have HT5 := hide (Touch.trans HT4.out (T5.mono (S' := fun g => G g ∨ g = D + 1) fun _ _ h => .inr h) fun g hg e => by rcases e with e | e; exact e; have := HD.out; omega)
    have HE : Hid (N1 ≠ N2) := hide he
    clear hmm CO HK5 HM4 HT4 P1 P2 P3 T5 NG GE fz
    go_wp2_with fail
    refine C2.out.mono ?_
    rintro e w13 ⟨a, kc, rfl, ow, t13⟩
    have OW := hide (Rc.Own.base ow GE5.out)
    have KF := hide (K5.out.calm t13)
    have TF := hide (Touch.trans HT5.out (t13.mono (S' := G) fun _ _ h => h.elim) fun _ _ h => h)
    clear ow t13 HT5 GE5 C2 K5
    go_wp2_with fail
    go_ret
    obtain ⟨-, rfl, -⟩ := HA.out
    obtain rfl := HA1.out
    exact ⟨a, kc, by rw [ALN.out]; rfl, by rw [HD.out, ALN.out]; exact OW.out, TF.out, KF.out⟩

end Go.Proofs.YtapnjofplilefaaGreat
