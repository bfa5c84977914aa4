/- The kit's: keys' states and states that are the same are told to be so (Keys, State). The kit's: a state lent (LendState). The kit's: a state lent is kept (KeptState). A key left out of a state lent: append(x[:o:o], x[o+1:]...). The kit's: a state lent (the walk of LendState). -/
import Derived.Test.YtdcpmpbfnfjncaaDoorPkb
import Derived.Test.YtdcpmpbfnfjncaaDoorYLi
import Derived.Test.YtdcpmpbfnfjncaaDoorYFl
import Derived.Test.YtdcpmpbfnfjncaaDoorPkd
namespace Go.Proofs.YtdcpmpbfnfjncaaDoor
open Go.RowKit

theorem keys_W {w : World} {ao : Option Addr} {L : List Kv} (h : encK.Mem w ao L) (j : Nat) (hj : j < L.length) : ∃ g off, ao = some ⟨g, off, none⟩ ∧ ∀ W, Calm w W → W.cell? ⟨g, off + j * 3, none⟩ = some (.string (L.getD j kv0).k.ke) ∧ W.cell? ⟨g, off + j * 3 + 1, none⟩ = some (.int .i64 (L.getD j kv0).k.dr) ∧ W.cell? ⟨g, off + j * 3 + 2, none⟩ = some (.slice (L.getD j kv0).wo (L.getD j kv0).k.wi.length (L.getD j kv0).cap) := by
  obtain ⟨g, off, e, -⟩ := keys_at h j hj
  refine ⟨g, off, e, fun W hW => ?_⟩
  obtain ⟨g', off', e', h⟩ := keys_at (Rc.Mem.calm h hW) j hj
  rw [e] at e'
  injection e' with e'
  injection e' with e1 e2
  subst e1 e2
  exact h

set_option maxRecDepth 100000 in
set_option maxHeartbeats 2000000 in
theorem kitKeys_any (A B : List Kv) (ao bo : Option Addr) (ca cb : Nat) (w : World) (ha : encK.Mem w ao A) (hb : encK.Mem w bo B) (he : B.length = A.length) (hk : ∀ j, j < A.length → (B.getD j kv0).k = (A.getD j kv0).k ∧ encW.Mem w (A.getD j kv0).wo (A.getD j kv0).k.wi ∧ encW.Mem w (B.getD j kv0).wo (A.getD j kv0).k.wi ∧ (A.getD j kv0).k.wi.length ≤ 140737488355328) (hn : A.length ≤ 140737488355328) :
    Calls Tryd.prog 33 #[.slice ao A.length ca, .slice bo A.length cb] w fun e w' => e = .returned (.bool true) ∧ Calm w w' := by
  have hat : Hid (∀ j, j < A.length → ∃ b off b' off', ao = some ⟨b, off, none⟩ ∧ bo = some ⟨b', off', none⟩ ∧ ∃ (q : Ks) (a1 : Option Addr) (c1 : Nat) (b1 : Option Addr) (d1 : Nat), (∀ W, Calm w W → (W.cell? ⟨b, off + j * 3, none⟩ = some (.string q.ke) ∧ W.cell? ⟨b, off + j * 3 + 1, none⟩ = some (.int .i64 q.dr) ∧ W.cell? ⟨b, off + j * 3 + 2, none⟩ = some (.slice a1 q.wi.length c1)) ∧ (W.cell? ⟨b', off' + j * 3, none⟩ = some (.string q.ke) ∧ W.cell? ⟨b', off' + j * 3 + 1, none⟩ = some (.int .i64 q.dr) ∧ W.cell? ⟨b', off' + j * 3 + 2, none⟩ = some (.slice b1 q.wi.length d1))) ∧
      ∀ W, Calm w W → Calls Tryd.prog 34 #[.agg (ksc q a1 c1), .agg (ksc q b1 d1)] W fun e w' => e = .returned (.bool true) ∧ Calm W w') := hide fun j hj => by
    obtain ⟨b, off, e1, h1⟩ := keys_W ha j hj
    obtain ⟨b', off', e2, h2⟩ := keys_W hb j (by omega)
    obtain ⟨k1, k2, k3, k4⟩ := hk j hj
    rw [k1] at h2
    refine ⟨b, off, b', off', e1, e2, (A.getD j kv0).k, (A.getD j kv0).wo, (A.getD j kv0).cap, (B.getD j kv0).wo, (B.getD j kv0).cap, fun W hW => ⟨h1 W hW, h2 W hW⟩, fun W hW => kitKey_any _ _ _ _ _ W (Rc.Mem.calm k2 hW) (Rc.Mem.calm k3 hW) k4⟩
  generalize A.length = n at *
  clear ha hb he hk
  go_enter Tryd.func33, Tryd.ntmps33
  go_wp2_with fail
  go_loopw [5] (fun i wr => ∃ k : Nat, i = .int .i64 k ∧ k ≤ n ∧ Calm w wr) (fun i _ => n - (intOf i).toNat)
  case atStart => exact ⟨0, rfl, Nat.zero_le _, Touch.refl _ _⟩
  case round =>
    obtain ⟨k, rfl, hk, T0⟩ := hrel
    by_cases hlt : k < n
    · obtain ⟨b, off, b', off', rfl, rfl, q, a1, c1, b1, d1, hc, hq⟩ := hat.out k hlt
      have HC := hide hc
      have HQ := hide hq
      have hki : (k : Int) < (n : Int) := by omega
      have H0 := hide T0
      clear T0 hat hc hq
      go_wp2_with fail
      refine wp_region_held (S := Calm w) (by kernel_rfl) ?_
      have hT0 : Calm w { wr with drawn := wr.drawn + 1 } := H0.out.drew
      refine wpAnyH_yield 0 17 (.slice (some ⟨b, off, none⟩) n ca) rfl rfl (by kernel_rfl) (by kernel_rfl) (by kernel_rfl) (fun _ _ _ h => h) (by kernel_rfl) (fun W hW => by kernel_rfl) (by assumption) rfl rfl ?_
      simp only [Act.put, List.setIfInBounds_toArray, List.set_cons_zero, List.set_cons_succ]
      refine wpAnyH_yield 1 18 (.int .i64 (k : Int)) rfl rfl (by kernel_rfl) (by kernel_rfl) (by kernel_rfl) (fun _ _ _ h => h) (by kernel_rfl) (fun W hW => by kernel_rfl) (by assumption) rfl rfl ?_
      simp only [Act.put, List.setIfInBounds_toArray, List.set_cons_zero, List.set_cons_succ]
      refine wpAnyH_yield 2 19 (.pointer (some ⟨b, off + k * 3, none⟩)) rfl rfl (by kernel_rfl) (by kernel_rfl) (by kernel_rfl) (fun _ _ _ h => h) (by kernel_rfl) (fun W hW => by go_simp) (by assumption) rfl rfl ?_
      simp only [Act.put, List.setIfInBounds_toArray, List.set_cons_zero, List.set_cons_succ]
      refine wpAnyH_yield 3 20 (.agg (ksc q a1 c1)) rfl rfl (by kernel_rfl) (by kernel_rfl) (by kernel_rfl) (fun _ _ _ h => h) (by kernel_rfl) (fun W hW => by obtain ⟨⟨c0, c1, c2⟩, -⟩ := HC.out W hW; go_simp) (by assumption) rfl rfl ?_
      simp only [Act.put, List.setIfInBounds_toArray, List.set_cons_zero, List.set_cons_succ]
      refine wpAnyH_yield 4 21 (.slice (some ⟨b', off', none⟩) n cb) rfl rfl (by kernel_rfl) (by kernel_rfl) (by kernel_rfl) (fun _ _ _ h => h) (by kernel_rfl) (fun W hW => by kernel_rfl) (by assumption) rfl rfl ?_
      simp only [Act.put, List.setIfInBounds_toArray, List.set_cons_zero, List.set_cons_succ]
      refine wpAnyH_yield 5 22 (.int .i64 (k : Int)) rfl rfl (by kernel_rfl) (by kernel_rfl) (by kernel_rfl) (fun _ _ _ h => h) (by kernel_rfl) (fun W hW => by kernel_rfl) (by assumption) rfl rfl ?_
      simp only [Act.put, List.setIfInBounds_toArray, List.set_cons_zero, List.set_cons_succ]
      refine wpAnyH_yield 6 23 (.pointer (some ⟨b', off' + k * 3, none⟩)) rfl rfl (by kernel_rfl) (by kernel_rfl) (by kernel_rfl) (fun _ _ _ h => h) (by kernel_rfl) (fun W hW => by go_simp) (by assumption) rfl rfl ?_
      simp only [Act.put, List.setIfInBounds_toArray, List.set_cons_zero, List.set_cons_succ]
      refine wpAnyH_yield 7 24 (.agg (ksc q b1 d1)) rfl rfl (by kernel_rfl) (by kernel_rfl) (by kernel_rfl) (fun _ _ _ h => h) (by kernel_rfl) (fun W hW => by obtain ⟨-, c0, c1, c2⟩ := HC.out W hW; go_simp) (by assumption) rfl rfl ?_
      simp only [Act.put, List.setIfInBounds_toArray, List.set_cons_zero, List.set_cons_succ]
      refine wpAnyH_enter 8 25 34 #[.agg (ksc q a1 c1), .agg (ksc q b1 d1)] rfl rfl (by kernel_rfl) (by kernel_rfl) (by kernel_rfl) ?_
      refine (HQ.out _ hT0).mono ?_
      rintro r w5 ⟨rfl, T5⟩
      have h5 := hT0.tr T5
      refine ⟨_, rfl, h5, ?_⟩
      simp only [Act.put, List.setIfInBounds_toArray, List.set_cons_zero, List.set_cons_succ]
      refine wpAnyH_yield 9 26 (.bool false) rfl rfl (by kernel_rfl) (by kernel_rfl) (by kernel_rfl) (fun _ _ _ h => h) (by kernel_rfl) (fun W hW => by go_simp) (by assumption) rfl rfl ?_
      simp only [Act.put, List.setIfInBounds_toArray, List.set_cons_zero, List.set_cons_succ]
      refine wpAnyH_done (by kernel_rfl) ?_ _
      have H1 := hide h5
      clear hT0 H0 h5 T5 HC HQ
      go_wp2_with fail
      go_roundw
      case rel => exact ⟨k + 1, by go_num, by omega, H1.out⟩
      case measure => simp [intOf]; omega
    · have e : k = n := by omega
      subst e
      have HT := hide T0
      clear T0
      go_wp2_with fail
      go_ret
      exact ⟨rfl, HT.out⟩

set_option maxRecDepth 100000 in
set_option maxHeartbeats 2000000 in
theorem kitState_any (c : Cf) (M : List Int) (n : Nat) (mo po : Option Addr) (mc pc : Nat) (ko lo : Option Addr) (kc lc : Nat) (w : World) (hm : Seg w .i64 mo M) (hp : Seg w .i64 po M) (hb : M.length ≤ 17592186043904)
    (CK : Hid (∀ W, Calm w W → Calls Tryd.prog 33 #[.slice ko n kc, .slice lo n lc] W fun e w' => e = .returned (.bool true) ∧ Calm W w')) :
    Calls Tryd.prog 18 #[.agg (stc c (.slice mo M.length mc) (.slice ko n kc)), .agg (stc c (.slice po M.length pc) (.slice lo n lc))] w fun e w' => e = .returned (.bool true) ∧ Calm w w' := by
  have CI : Hid (∀ W, Calm w W → Calls Tryd.prog 32 #[.slice mo M.length mc, .slice po M.length pc] W fun e w' => e = .returned (.bool true) ∧ Calm W w') := hide fun W hW => kitInts_same mo po M mc pc W (hm.touch hW (fun _ _ h => h)) (hp.touch hW (fun _ _ h => h)) hb
  have T0 := hide (((Touch.refl (fun _ => False) w).alloc (.cells (stc c (.slice mo M.length mc) (.slice ko n kc)) 28)).alloc (.cells (stc c (.slice po M.length pc) (.slice lo n lc)) 28))
  have A0 := hide (al_old (al_new w (.cells (stc c (.slice mo M.length mc) (.slice ko n kc)) 28)) (.cells (stc c (.slice po M.length pc) (.slice lo n lc)) 28))
  have A1 := al_new (w.alloc (.cells (stc c (.slice mo M.length mc) (.slice ko n kc)) 28)) (.cells (stc c (.slice po M.length pc) (.slice lo n lc)) 28)
  rw [al_size] at A1
  replace A1 := hide A1
  clear hm hp
  generalize M.length = m at *
  go_enter Tryd.func18, Tryd.ntmps18
  go_wp2_with fail
  refine (CI.out _ T0.out).mono ?_
  rintro e w1 ⟨rfl, T1⟩
  have TT1 := hide (T0.out.tr T1)
  obtain ⟨-, -, -, g11⟩ := st_cells (T1.at A0.out)
  obtain ⟨-, -, -, k11⟩ := st_cells (T1.at A1.out)
  clear CI T0 T1 A0 A1
  go_wp2_with fail
  refine (CK.out _ TT1.out).mono ?_
  rintro e w2 ⟨rfl, T2⟩
  have TT2 := hide (TT1.out.tr T2)
  clear T2 TT1 CK
  go_wp2_with fail
  go_ret
  exact ⟨rfl, TT2.out⟩

end Go.Proofs.YtdcpmpbfnfjncaaDoor

namespace Go.Proofs.YtdcpmpbfnfjncaaDoor
open Go.RowKit

/-- The keys' states that stand behind those lent. -/
abbrev rmK (i : Nat) : Kv := ⟨⟨⟨#[114, 111, 111, 109]⟩, (i : Int), []⟩, none, 0⟩
abbrev rms : List Kv := [rmK 0, rmK 1, rmK 2]
theorem rms_next {i : Nat} (h : i < 3) : rms.take (i + 1) = rms.take i ++ [rmK i] := by
  rcases (by omega : i = 0 ∨ i = 1 ∨ i = 2) with rfl | rfl | rfl <;> rfl
theorem infoKs : (Tryd.prog.info? 40).map (fun i => (i.zero, i.size, i.bytes)) = some (some (.agg #[.string ⟨#[]⟩, .int .i64 0, .slice none 0 0]), 3, 48) := by kernel_rfl
theorem elemKs : Tryd.prog.elem 26 = 40 := by kernel_rfl

/-- The first keys' states, each lent. -/
structure LentKs (w : World) (base i : Nat) (K L : List Kv) : Prop where
  len : L.length = i
  at_ : ∀ j, j < i → (L.getD j kv0).k = (K.getD j kv0).k ∧ ∃ g, (L.getD j kv0).wo = some ⟨g, 0, none⟩ ∧ LentK w base g (L.getD j kv0).cap (K.getD j kv0).k.wi
theorem LentKs.touch {S : Nat → Prop} {w w' : World} {base i : Nat} {K L : List Kv} (h : LentKs w base i K L) (ht : Touch S w w') (hn : ∀ g cur, w.heap[g]? = some (.cells cur 65 (0, 0)) → ¬ S g) : LentKs w' base i K L := ⟨h.len, fun j hj => by
  obtain ⟨e, g, e1, l⟩ := h.at_ j hj
  refine ⟨e, g, e1, Rc.Own.touch l ht fun g' hg' => ?_⟩
  obtain ⟨-, cur, hc⟩ := Rc.own_block l hg'
  exact hn g' cur hc⟩
theorem LentKs.calm {w w' : World} {base i : Nat} {K L : List Kv} (h : LentKs w base i K L) (ht : Calm w w') : LentKs w' base i K L := h.touch ht fun _ _ _ h => h
theorem LentKs.next {w : World} {base b2 i g c : Nat} {K L : List Kv} (h : LentKs w base i K L) (hl : LentK w b2 g c (K.getD i kv0).k.wi) (hb : base ≤ b2) : LentKs w base (i + 1) K (L ++ [⟨(K.getD i kv0).k, some ⟨g, 0, none⟩, c⟩]) := ⟨by simp [h.len], fun j hj => by
  by_cases hji : j < i
  · have : (L ++ [(⟨(K.getD i kv0).k, some ⟨g, 0, none⟩, c⟩ : Kv)]).getD j kv0 = L.getD j kv0 := by
      rw [List.getD_eq_getElem?_getD, List.getElem?_append_left (by rw [h.len]; exact hji), List.getD_eq_getElem?_getD]
    rw [this]
    exact h.at_ j hji
  · obtain rfl : j = i := by omega
    have : (L ++ [(⟨(K.getD j kv0).k, some ⟨g, 0, none⟩, c⟩ : Kv)]).getD j kv0 = (⟨(K.getD j kv0).k, some ⟨g, 0, none⟩, c⟩ : Kv) := by
      rw [List.getD_eq_getElem?_getD, List.getElem?_append_right (by rw [h.len]; omega), h.len, Nat.sub_self]; rfl
    rw [this]
    exact ⟨rfl, g, rfl, Rc.Own.base hl hb⟩⟩
theorem LentKs.low {w : World} {base b2 i : Nat} {K L : List Kv} (h : LentKs w base i K L) (hb : b2 ≤ base) : LentKs w b2 i K L := ⟨h.len, fun j hj => by
  obtain ⟨e, g, e1, l⟩ := h.at_ j hj
  exact ⟨e, g, e1, Rc.Own.base l hb⟩⟩
theorem Lent.heap {w : World} {g c : Nat} {xs : List Int} (h : Lent w g c xs) : ∃ cur, w.heap[g]? = some (.cells cur 2 (0, 0)) := h.row.block rfl

/-- A state lent. -/
structure LentS (w : World) (base gm cm : Nat) (M : List Int) (gk ck : Nat) (K L : List Kv) : Prop where
  marks : Lent w gm cm M
  row : encK.Own 40 w base (.slice (some ⟨gk, 0, none⟩) (L ++ rms).length ck) (L ++ rms)
  each : LentKs w base K.length K L

/-- One key's state more. -/
theorem ks_app1 {w : World} {base : Nat} {ao : Option Addr} {cap : Nat} {A : List Kv} (x : Kv) (h : encK.Own 40 w base (.slice ao A.length cap) A) (hs : base ≤ w.heap.size) (hn : A.length ≤ 4000000000000) :
    ∃ a2 p2 w4, (Builtin.append_ #[26, 26] 26 #[.slice ao A.length cap, .slice (some ⟨w.heap.size, 0, none⟩) 1 1]).run Tryd.prog (w.alloc (.cells (kvc x) 40)) = .ok (.slice a2 (A.length + 1) p2) w4 ∧
      encK.Own 40 w4 base (.slice a2 (A ++ [x]).length p2) (A ++ [x]) ∧ Touch (fun d => (Value.slice ao A.length cap).ownBlock = some d) w w4 := by
  obtain ⟨i0, hi, hz, hsz, hby⟩ := Rc.info_parts infoKs
  have own := Rc.Own.calm h ((Touch.refl (fun _ => False) w).alloc (.cells (kvc x) 40))
  have hs1 := al_size w (.cells (kvc x) 40)
  obtain ⟨a2, p2, w4, hr, ow, t2, -⟩ := Rc.Own.appw (E := encK) (ty := 26) Tryd.underlying26 hi hz hsz hby rfl own (some ⟨w.heap.size, 0, none⟩) 1 [x] (Rc.Mem.new w [x] 40) (fun h => (nomatch h)) (by simp; unfold maxLen; omega) (by simp; omega) (by omega) (by omega)
  have e3 : (A ++ [x]).length = A.length + 1 := by simp
  refine ⟨a2, p2, w4, by rw [← e3]; exact hr, ow, ?_⟩
  exact Touch.trans (((Touch.refl (fun _ => False) w).alloc _).mono fun _ _ h => h.elim) t2 fun _ _ h => h
/-- A row of keys' states is no state. -/
theorem own_notS {w : World} {base D : Nat} {v : Value} {L : List Kv} {cs : Array Value} (h : encK.Own 40 w base v L) (hD : w.heap[D]? = some (.cells cs 28 (0, 0))) : ¬ v.ownBlock = some D := fun hv => by
  obtain ⟨-, cur, hc⟩ := Rc.own_block h hv
  rw [hD] at hc
  injection hc with hc
  injection hc with _ e
  cases e
theorem own_notW {w : World} {base g : Nat} {v : Value} {L : List Kv} {cur : Array Value} (h : encK.Own 40 w base v L) (hD : w.heap[g]? = some (.cells cur 65 (0, 0))) : ¬ v.ownBlock = some g := fun hv => by
  obtain ⟨-, cur, hc⟩ := Rc.own_block h hv
  rw [hD] at hc
  injection hc with hc
  injection hc with _ e
  cases e
theorem own_notI {w : World} {base g : Nat} {v : Value} {L : List Kv} {cur : Array Value} (h : encK.Own 40 w base v L) (hD : w.heap[g]? = some (.cells cur 2 (0, 0))) : ¬ v.ownBlock = some g := fun hv => by
  obtain ⟨-, cur, hc⟩ := Rc.own_block h hv
  rw [hD] at hc
  injection hc with hc
  injection hc with _ e
  cases e
theorem st_notW {w : World} {D g : Nat} {cs cur : Array Value} (hD : w.heap[D]? = some (.cells cs 28 (0, 0))) (hg : w.heap[g]? = some (.cells cur 65 (0, 0))) : ¬ g = D := fun e => by
  subst e
  rw [hD] at hg
  injection hg with hc
  injection hc with _ e
  cases e
theorem st_notI {w : World} {D g : Nat} {cs cur : Array Value} (hD : w.heap[D]? = some (.cells cs 28 (0, 0))) (hg : w.heap[g]? = some (.cells cur 2 (0, 0))) : ¬ g = D := fun e => by
  subst e
  rw [hD] at hg
  injection hg with hc
  injection hc with _ e
  cases e

/-- A state with nothing in it. -/
abbrev stz : Array Value := stc ⟨0, 0, 0, 0, 0, 0, 0, 0, 0, false⟩ (.slice none 0 0) (.slice none 0 0)

end Go.Proofs.YtdcpmpbfnfjncaaDoor

namespace Go.Proofs.YtdcpmpbfnfjncaaDoor
open Go.RowKit

theorem LentS.calm {w w' : World} {base gm cm gk ck : Nat} {M : List Int} {K L : List Kv} (h : LentS w base gm cm M gk ck K L) (ht : Calm w w') : LentS w' base gm cm M gk ck K L := ⟨h.marks.calm ht, Rc.Own.calm h.row ht, h.each.calm ht⟩
theorem LentS.sl {w : World} {base gm cm gk ck : Nat} {M : List Int} {K L : List Kv} (h : LentS w base gm cm M gk ck K L) : encK.Sl w (some ⟨gk, 0, none⟩) ck L ∧ L.length = K.length ∧ K.length + 3 ≤ ck := by
  obtain ⟨-, h2, h3, -, -, -⟩ := Rc.Own.mem h.row
  have hm := Rc.Mem.take h2 L.length
  rw [List.take_left' rfl] at hm
  have e := h.each.len
  have h4 : L.length + 3 ≤ ck := by simpa using h3
  exact ⟨⟨hm, fun h => (nomatch h), by omega⟩, e, by omega⟩
/-- Its marks. -/
theorem LentS.room {w : World} {base gm cm gk ck : Nat} {M : List Int} {K L : List Kv} (h : LentS w base gm cm M gk ck K L) (i : Nat) (hi : i < 3) : w.cell? ⟨gk, (K.length + i) * 3, none⟩ = some (.string ⟨#[114, 111, 111, 109]⟩) ∧ w.cell? ⟨gk, (K.length + i) * 3 + 1, none⟩ = some (.int .i64 (i : Int)) := by
  obtain ⟨-, h2, -, -, -, -⟩ := Rc.Own.mem h.row
  obtain ⟨b, off, e, hc⟩ := keys_at h2 (L.length + i) (by simp; omega)
  injection e with e
  injection e with e1 e2
  subst e1 e2
  have hg : (L ++ rms).getD (L.length + i) kv0 = rmK i := by
    rw [List.getD_eq_getElem?_getD, List.getElem?_append_right (by omega), Nat.add_sub_cancel_left]
    rcases (by omega : i = 0 ∨ i = 1 ∨ i = 2) with rfl | rfl | rfl <;> rfl
  rw [hg, h.each.len, Nat.zero_add] at hc
  exact ⟨hc.1, hc.2.1⟩
/-- The windows of its keys. -/
theorem LentS.wins {w : World} {base gm cm gk ck : Nat} {M : List Int} {K L : List Kv} (h : LentS w base gm cm M gk ck K L) (j : Nat) (hj : j < K.length) : (L.getD j kv0).k = (K.getD j kv0).k ∧ encW.Sl w (L.getD j kv0).wo (L.getD j kv0).cap (K.getD j kv0).k.wi := by
  obtain ⟨e, g, e1, l⟩ := h.each.at_ j hj
  refine ⟨e, ?_⟩
  rw [e1]
  exact ⟨(LentK.mem l).1, fun h => (nomatch h), by have := (LentK.mem l).2.1; omega⟩

set_option maxRecDepth 100000 in
set_option maxHeartbeats 2000000 in
theorem keptState_any (c : Cf) (M : List Int) (K L : List Kv) (base gm cm gk ck : Nat) (mo : Option Addr) (mc : Nat) (ko : Option Addr) (kc : Nat) (w : World) (hl : LentS w base gm cm M gk ck K L) (hm : Seg w .i64 mo M) (hb : M.length ≤ 17592186043904) (hk : encK.Mem w ko K) (hw : ∀ j, j < K.length → encW.Mem w (K.getD j kv0).wo (K.getD j kv0).k.wi ∧ (K.getD j kv0).k.wi.length ≤ 1954687338300) (hn : K.length ≤ 3000000000000) :
    Calls Tryd.prog 8 #[.agg (stc c (.slice (some ⟨gm, 0, none⟩) M.length cm) (.slice (some ⟨gk, 0, none⟩) K.length ck)), .agg (stc c (.slice mo M.length mc) (.slice ko K.length kc))] w fun e w' => e = .returned (.bool true) ∧ Calm w w' := by
  have CS : Hid (∀ W, Calm w W → Calls Tryd.prog 18 #[.agg (stc c (.slice (some ⟨gm, 0, none⟩) M.length cm) (.slice (some ⟨gk, 0, none⟩) K.length ck)), .agg (stc c (.slice mo M.length mc) (.slice ko K.length kc))] W fun e w' => e = .returned (.bool true) ∧ Calm W w') := hide fun W hW => by
    have hW' := hl.calm hW
    refine kitState_any c M K.length _ mo cm mc _ ko ck kc W hW'.marks.seg (hm.touch hW fun _ _ h => h) hb (hide fun V hV => ?_)
    have hV' := hW'.calm hV
    have := kitKeys_any L K (some ⟨gk, 0, none⟩) ko ck kc V hV'.sl.1.mem (Rc.Mem.calm hk (hW.tr hV)) hV'.sl.2.1.symm (fun j hj => by
      rw [hV'.sl.2.1] at hj
      obtain ⟨e, s⟩ := hV'.wins j hj
      refine ⟨e.symm, by rw [e]; exact s.mem, by rw [e]; exact Rc.Mem.calm (hw j hj).1 (hW.tr hV), by rw [e]; have := (hw j hj).2; omega⟩) (by rw [hV'.sl.2.1]; omega)
    rw [hV'.sl.2.1] at this
    exact this
  have CI : Hid (∀ W, Calm w W → Calls Tryd.prog 19 #[.slice (some ⟨gm, 0, none⟩) M.length cm, .slice mo M.length mc] W fun e w' => e = .returned (.bool true) ∧ Calm W w') := hide fun W hW => kept_any gm cm mo M mc W (hl.calm hW).marks (hm.touch hW fun _ _ h => h) hb
  have CK : Hid (∀ j, j < K.length → ∃ b' off', ko = some ⟨b', off', none⟩ ∧ ∃ (q : Ks) (g c1 : Nat) (b1 : Option Addr) (d1 : Nat), (∀ W, Calm w W → (W.cell? ⟨gk, j * 3, none⟩ = some (.string q.ke) ∧ W.cell? ⟨gk, j * 3 + 1, none⟩ = some (.int .i64 q.dr) ∧ W.cell? ⟨gk, j * 3 + 2, none⟩ = some (.slice (some ⟨g, 0, none⟩) q.wi.length c1)) ∧ (W.cell? ⟨b', off' + j * 3, none⟩ = some (.string q.ke) ∧ W.cell? ⟨b', off' + j * 3 + 1, none⟩ = some (.int .i64 q.dr) ∧ W.cell? ⟨b', off' + j * 3 + 2, none⟩ = some (.slice b1 q.wi.length d1))) ∧
      ∀ W, Calm w W → Calls Tryd.prog 20 #[.agg (ksc q (some ⟨g, 0, none⟩) c1), .agg (ksc q b1 d1)] W fun e w' => e = .returned (.bool true) ∧ Calm W w') := hide fun j hj => by
    obtain ⟨gk', off, e1, h1⟩ := keys_W hl.sl.1.mem j (by rw [hl.sl.2.1]; exact hj)
    injection e1 with e1
    injection e1 with e3 e4
    subst e3 e4
    obtain ⟨b', off', e2, h2⟩ := keys_W hk j hj
    obtain ⟨ek, g, eg, lk⟩ := hl.each.at_ j hj
    simp only [ek, eg, Nat.zero_add] at h1
    exact ⟨b', off', e2, (K.getD j kv0).k, g, (L.getD j kv0).cap, (K.getD j kv0).wo, (K.getD j kv0).cap, fun W hW => ⟨h1 W hW, h2 W hW⟩, fun W hW => keptKey_any _ base g _ _ _ W (lk.calm hW) (Rc.Mem.calm (hw j hj).1 hW) (by have := (hw j hj).2; omega)⟩
  have HR : Hid (∀ W, Calm w W → ∀ i, i < 3 → W.cell? ⟨gk, (K.length + i) * 3, none⟩ = some (.string ⟨#[114, 111, 111, 109]⟩) ∧ W.cell? ⟨gk, (K.length + i) * 3 + 1, none⟩ = some (.int .i64 (i : Int))) := hide fun W hW i hi => (hl.calm hW).room i hi
  obtain ⟨i0, hi, -, -, -⟩ := Rc.info_parts infoKs
  have m2 := hl.sl.2.2
  have hcut : ∀ W, (Instr.slice 26 (.slice (some ⟨gk, 0, none⟩) K.length ck) none (some (.int .i64 ((K.length : Int) + 3))) none).run Tryd.prog W = .ok (.slice (some ⟨gk, 0, none⟩) (K.length + 3) ck) W := fun W => cut_to (k := K.length + 3) Tryd.underlying26 elemKs hi m2 W
  have T0 := hide (((Touch.refl (fun _ => False) w).alloc (.cells (stc c (.slice (some ⟨gm, 0, none⟩) M.length cm) (.slice (some ⟨gk, 0, none⟩) K.length ck)) 28)).alloc (.cells (stc c (.slice mo M.length mc) (.slice ko K.length kc)) 28))
  have A0 := hide (al_old (al_new w (.cells (stc c (.slice (some ⟨gm, 0, none⟩) M.length cm) (.slice (some ⟨gk, 0, none⟩) K.length ck)) 28)) (.cells (stc c (.slice mo M.length mc) (.slice ko K.length kc)) 28))
  have A1 := al_new (w.alloc (.cells (stc c (.slice (some ⟨gm, 0, none⟩) M.length cm) (.slice (some ⟨gk, 0, none⟩) K.length ck)) 28)) (.cells (stc c (.slice mo M.length mc) (.slice ko K.length kc)) 28)
  rw [al_size] at A1
  replace A1 := hide A1
  clear hl hm hk hw hi m2
  generalize M.length = m at *
  generalize K.length = n at *
  go_enter Tryd.func8, Tryd.ntmps8
  go_wp2_with fail
  refine (CS.out _ T0.out).mono ?_
  rintro e w1 ⟨rfl, T1⟩
  have TL := hide (T0.out.tr T1)
  obtain ⟨-, -, g10, g11⟩ := st_cells (T1.at A0.out)
  obtain ⟨-, -, k10, k11⟩ := st_cells (T1.at A1.out)
  have HA := hide (T1.at A0.out)
  have HJ := hide (T1.at A1.out)
  clear T0 T1 A0 A1 CS
  generalize w.heap.size = B at *
  go_wp2_with fail
  refine (CI.out _ TL.out).mono ?_
  rintro e w2 ⟨rfl, T2⟩
  have TL2 := hide (TL.out.tr T2)
  have HA2 := hide (T2.at HA.out)
  have HJ2 := hide (T2.at HJ.out)
  clear TL T2 HA HJ CI g10 g11 k10 k11
  go_wp2_with fail
  go_loopw [5] (fun s5 wr => ∃ j : Nat, s5 = .int .i64 (j : Int) ∧ j ≤ n ∧ Calm w2 wr) (fun s5 _ => n - (intOf s5).toNat)
  case atStart => exact ⟨0, rfl, by omega, Touch.refl _ _⟩
  case round =>
    obtain ⟨j, rfl, hj, T3⟩ := hrel
    obtain ⟨-, -, -, k11⟩ := st_cells (T3.at HJ2.out)
    by_cases hlt : j < n
    · have hltz : (j : Int) < (n : Int) := by omega
      obtain ⟨b', off', rfl, q, g, c1, b1, d1, hc, hq⟩ := CK.out j hlt
      have HC := hide hc
      have HQ := hide hq
      have H3 := hide T3
      clear T3 hc hq CK HR hcut
      go_wp2_with fail
      clear k11
      refine wp_region_held (S := Calm w2) (by kernel_rfl) ?_
      have hT0 : Calm w2 { wr with drawn := wr.drawn + 1 } := H3.out.drew
      refine wpAnyH_yield 0 27 (.pointer (some ⟨B, 11, none⟩)) rfl rfl (by kernel_rfl) (by kernel_rfl) (by kernel_rfl) (fun _ _ _ h => h) (by kernel_rfl) (fun W hW => by go_simp) (by assumption) rfl rfl ?_
      simp only [Act.put, List.setIfInBounds_toArray, List.set_cons_zero, List.set_cons_succ]
      refine wpAnyH_yield 1 28 (.slice (some ⟨gk, 0, none⟩) n ck) rfl rfl (by kernel_rfl) (by kernel_rfl) (by kernel_rfl) (fun _ _ _ h => h) (by kernel_rfl) (fun W hW => by obtain ⟨-, -, -, q⟩ := st_cells (hW.at HA2.out); go_simp) (by assumption) rfl rfl ?_
      simp only [Act.put, List.setIfInBounds_toArray, List.set_cons_zero, List.set_cons_succ]
      refine wpAnyH_yield 2 29 (.int .i64 (j : Int)) rfl rfl (by kernel_rfl) (by kernel_rfl) (by kernel_rfl) (fun _ _ _ h => h) (by kernel_rfl) (fun W hW => by kernel_rfl) (by assumption) rfl rfl ?_
      simp only [Act.put, List.setIfInBounds_toArray, List.set_cons_zero, List.set_cons_succ]
      refine wpAnyH_yield 3 30 (.pointer (some ⟨gk, j * 3, none⟩)) rfl rfl (by kernel_rfl) (by kernel_rfl) (by kernel_rfl) (fun _ _ _ h => h) (by kernel_rfl) (fun W hW => by go_simp) (by assumption) rfl rfl ?_
      simp only [Act.put, List.setIfInBounds_toArray, List.set_cons_zero, List.set_cons_succ]
      refine wpAnyH_yield 4 31 (.agg (ksc q (some ⟨g, 0, none⟩) c1)) rfl rfl (by kernel_rfl) (by kernel_rfl) (by kernel_rfl) (fun _ _ _ h => h) (by kernel_rfl) (fun W hW => by obtain ⟨⟨c0, c1, c2⟩, -⟩ := HC.out W (TL2.out.tr hW); go_simp) (by assumption) rfl rfl ?_
      simp only [Act.put, List.setIfInBounds_toArray, List.set_cons_zero, List.set_cons_succ]
      refine wpAnyH_yield 5 32 (.pointer (some ⟨B + 1, 11, none⟩)) rfl rfl (by kernel_rfl) (by kernel_rfl) (by kernel_rfl) (fun _ _ _ h => h) (by kernel_rfl) (fun W hW => by go_simp) (by assumption) rfl rfl ?_
      simp only [Act.put, List.setIfInBounds_toArray, List.set_cons_zero, List.set_cons_succ]
      refine wpAnyH_yield 6 33 (.slice (some ⟨b', off', none⟩) n kc) rfl rfl (by kernel_rfl) (by kernel_rfl) (by kernel_rfl) (fun _ _ _ h => h) (by kernel_rfl) (fun W hW => by obtain ⟨-, -, -, q⟩ := st_cells (hW.at HJ2.out); go_simp) (by assumption) rfl rfl ?_
      simp only [Act.put, List.setIfInBounds_toArray, List.set_cons_zero, List.set_cons_succ]
      refine wpAnyH_yield 7 34 (.int .i64 (j : Int)) rfl rfl (by kernel_rfl) (by kernel_rfl) (by kernel_rfl) (fun _ _ _ h => h) (by kernel_rfl) (fun W hW => by kernel_rfl) (by assumption) rfl rfl ?_
      simp only [Act.put, List.setIfInBounds_toArray, List.set_cons_zero, List.set_cons_succ]
      refine wpAnyH_yield 8 35 (.pointer (some ⟨b', off' + j * 3, none⟩)) rfl rfl (by kernel_rfl) (by kernel_rfl) (by kernel_rfl) (fun _ _ _ h => h) (by kernel_rfl) (fun W hW => by go_simp) (by assumption) rfl rfl ?_
      simp only [Act.put, List.setIfInBounds_toArray, List.set_cons_zero, List.set_cons_succ]
      refine wpAnyH_yield 9 36 (.agg (ksc q b1 d1)) rfl rfl (by kernel_rfl) (by kernel_rfl) (by kernel_rfl) (fun _ _ _ h => h) (by kernel_rfl) (fun W hW => by obtain ⟨-, c0, c1, c2⟩ := HC.out W (TL2.out.tr hW); go_simp) (by assumption) rfl rfl ?_
      simp only [Act.put, List.setIfInBounds_toArray, List.set_cons_zero, List.set_cons_succ]
      refine wpAnyH_enter 10 37 20 #[.agg (ksc q (some ⟨g, 0, none⟩) c1), .agg (ksc q b1 d1)] rfl rfl (by kernel_rfl) (by kernel_rfl) (by kernel_rfl) ?_
      refine (HQ.out _ (TL2.out.tr hT0)).mono ?_
      rintro r w5 ⟨rfl, T5⟩
      have h5 := hT0.tr T5
      refine ⟨_, rfl, h5, ?_⟩
      simp only [Act.put, List.setIfInBounds_toArray, List.set_cons_zero, List.set_cons_succ]
      refine wpAnyH_yield 11 38 (.bool false) rfl rfl (by kernel_rfl) (by kernel_rfl) (by kernel_rfl) (fun _ _ _ h => h) (by kernel_rfl) (fun W hW => by go_simp) (by assumption) rfl rfl ?_
      simp only [Act.put, List.setIfInBounds_toArray, List.set_cons_zero, List.set_cons_succ]
      refine wpAnyH_done (by kernel_rfl) ?_ _
      have H5 := hide h5
      clear h5 T5 hT0 HC HQ H3
      go_wp2_with fail
      go_roundw
      case rel => exact ⟨j + 1, by go_num, by omega, H5.out⟩
      case measure => simp [intOf]; omega
    · have hltz : ¬ (j : Int) < (n : Int) := by omega
      obtain rfl : j = n := by omega
      obtain ⟨-, -, -, g11⟩ := st_cells (T3.at HA2.out)
      have H3 := hide T3
      clear T3 CK
      go_wp2_with fail
      clear g11 k11 hcut
      go_loopw [7] (fun s7 w9 => ∃ i : Nat, s7 = .int .i64 (i : Int) ∧ i ≤ 3 ∧ w9 = wr) (fun s7 _ => 3 - (intOf s7).toNat)
      case atStart => exact ⟨0, rfl, by omega, rfl⟩
      case round =>
        obtain ⟨i, rfl, hi, rfl⟩ := hrel
        obtain ⟨-, -, -, k11⟩ := st_cells (H3.out.at HJ2.out)
        by_cases hlt3 : i < 3
        · have hltz3 : (i : Int) < 3 := by omega
          obtain ⟨r0, r1⟩ := HR.out _ (TL2.out.tr H3.out) i hlt3
          obtain ⟨q, hq⟩ : ∃ q, q = j + i := ⟨_, rfl⟩
          rw [← hq] at r0 r1
          have hq1 : (j : Int) + (i : Int) = (q : Int) := by omega
          have hq2 : (q : Int) < (j : Int) + 3 := by omega
          have hq3 : IntKind.i64.wrap (q : Int) = (q : Int) := by rw [IntKind.wrap_i64]; omega
          clear hq HR
          go_wp2_with fail
          go_roundw
          case rel => exact ⟨i + 1, by go_num, by omega, by first | rfl | trivial⟩
          case measure => simp [intOf]; omega
        · have hltz3 : ¬ (i : Int) < 3 := by omega
          have HT := hide (TL2.out.tr H3.out)
          clear HR k11
          go_wp2_with fail
          go_ret
          exact ⟨rfl, HT.out⟩

end Go.Proofs.YtdcpmpbfnfjncaaDoor

namespace Go.Proofs.YtdcpmpbfnfjncaaDoor
open Go.RowKit

theorem stateN_same {c : Cf} {M : List Int} {K L : List Kv} (hl : L.length = K.length) (hk : ∀ j, j < K.length → (L.getD j kv0).k = (K.getD j kv0).k) : stateN c M L = stateN c M K := by
  unfold stateN
  rw [hl]
  have : (List.range K.length).all (fun i => stAt c L i) = (List.range K.length).all (fun i => stAt c K i) := all_congr fun i hi => by
    unfold stAt
    rw [hk i hi]
    by_cases h0 : i = 0
    · subst h0; rfl
    · rw [hk (i - 1) (by omega)]
  rw [this]

/-- x[:o:o] -/
theorem cut_hm {gk n ck o : Nat} (ho : o ≤ n) (hc : n ≤ ck) (W : World) : (Instr.slice 26 (.slice (some ⟨gk, 0, none⟩) n ck) none (some (.int .i64 (o : Int))) (some (.int .i64 (o : Int)))).run Tryd.prog W = .ok (.slice (some ⟨gk, 0, none⟩) o o) W := by
  obtain ⟨i0, hi, hz, hsz, hby⟩ := Rc.info_parts infoKs
  rw [run_slice_hm W 26 (some ⟨gk, 0, none⟩) n ck (by rw [elemKs]; exact Tryd.underlying26) .i64 .i64 (o : Int) (o : Int) (by omega) (by omega) (by omega), elemKs]
  simp only [sizeOf, typeInfo]
  simp [hi, sliced, Addr.add_lit]
/-- x[o+1:] -/
theorem cut_l {gk n ck o : Nat} (ho : o < n) (hc : n + 3 ≤ ck) (W : World) : (Instr.slice 26 (.slice (some ⟨gk, 0, none⟩) n ck) (some (.int .i64 ((o : Int) + 1))) none none).run Tryd.prog W = .ok (.slice (some ⟨gk, (o + 1) * 3, none⟩) (n - (o + 1)) (ck - (o + 1))) W := by
  obtain ⟨i0, hi, hz, hsz, hby⟩ := Rc.info_parts infoKs
  rw [run_slice_l W 26 (some ⟨gk, 0, none⟩) n ck (by rw [elemKs]; exact Tryd.underlying26) .i64 ((o : Int) + 1) (by omega) (by omega), elemKs]
  have e1 : ((o : Int) + 1).toNat = o + 1 := by omega
  have e2 : ¬ ck = o + 1 := by omega
  simp only [sizeOf, typeInfo]
  simp [hi, hsz, sliced, Addr.add_lit, e1, e2]

theorem but_app {w : World} {base gk ck n o : Nat} {L : List Kv} (hown : encK.Own 40 w base (.slice (some ⟨gk, 0, none⟩) (L ++ rms).length ck) (L ++ rms)) (hn : L.length = n) (ho : o < n) (hl : n ≤ 3000000000000) :
    ∃ a2 c2 w2, (Builtin.append_ #[26, 26] 26 #[.slice (some ⟨gk, 0, none⟩) o o, .slice (some ⟨gk, (o + 1) * 3, none⟩) (n - (o + 1)) (ck - (o + 1))]).run Tryd.prog w = .ok (.slice a2 (n - 1) c2) w2 ∧ encK.Sl w2 a2 c2 (but L o) ∧ Calm w w2 ∧ ∀ a, a2 = some a → ∃ cur, w2.heap[a.block]? = some (.cells cur 40 (0, 0)) := by
  obtain ⟨i0, hi, hz, hsz, hby⟩ := Rc.info_parts infoKs
  obtain ⟨-, hmem, -, -, -, -⟩ := Rc.Own.mem hown
  have e3 : encK.n = 3 := rfl
  have mL : encK.Mem w (some ⟨gk, 0, none⟩) (L.take o) := by
    have := Rc.Mem.take hmem o
    rwa [List.take_append_of_le_length (by omega)] at this
  have mR : encK.Mem w (some ⟨gk, (o + 1) * 3, none⟩) (L.drop (o + 1)) := by
    have h1 := Rc.Mem.take hmem L.length
    rw [List.take_left' rfl] at h1
    have h2 := Rc.Mem.drop h1 (o + 1) (by omega)
    rwa [e3, Nat.zero_add] at h2
  have lL : (L.take o).length = o := by rw [List.length_take]; omega
  have lR : (L.drop (o + 1)).length = n - (o + 1) := by rw [List.length_drop, hn]
  have hnews : (encK.flat (L.drop (o + 1))).length = (n - (o + 1)) * i0.size := by rw [encK.flat_len, lR, hsz, e3]
  have holds : (encK.flat (L.take o)).length = o * i0.size := by rw [encK.flat_len, lL, hsz, e3]
  by_cases hz0 : n - (o + 1) = 0
  · have hR : L.drop (o + 1) = [] := List.eq_nil_of_length_eq_zero (by omega)
    have hr := run_append_room_cells (P := Tryd.prog) (w := w) 26 26 40 i0 Tryd.underlying26 hi gk 0 o o ⟨gk, (o + 1) * 3, none⟩ (n - (o + 1)) (ck - (o + 1)) (encK.flat (L.drop (o + 1))) hnews (Rc.Mem.cells mR) (encK.flat_one _) (by omega) (fun j hj => by rw [hR] at hj; simp [Rc.Enc.flat] at hj) (fun j hj => by rw [hR] at hj; simp [Rc.Enc.flat] at hj)
    rw [hR] at hr
    refine ⟨some ⟨gk, 0, none⟩, o, w, ?_, ?_, Touch.refl _ _, fun a ha => ?_⟩
    · rw [show n - 1 = o + (n - (o + 1)) by omega]; exact hr
    · unfold but
      rw [hR, List.append_nil]
      exact ⟨mL, fun h => (nomatch h), by omega⟩
    · injection ha with ha
      subst ha
      exact (Rc.own_block hown rfl).2
  · have hr := run_append_grow (P := Tryd.prog) w 26 26 40 i0 _ Tryd.underlying26 hi hz ⟨gk, 0, none⟩ o o (encK.flat (L.take o)) holds (Rc.Mem.cells mL) ⟨gk, (o + 1) * 3, none⟩ (n - (o + 1)) (ck - (o + 1)) (encK.flat (L.drop (o + 1))) hnews (Rc.Mem.cells mR) (by omega) (by omega) (by rw [hby]; exact Rc.fits_wide (by omega) (by omega) (by omega))
    have hg := Rc.own_grown (E := encK) (e := 40) (w := w) (base := 0) (old := o) (z := .agg #[.string ⟨#[]⟩, .int .i64 0, .slice none 0 0]) (L := L.take o) (M := L.drop (o + 1)) rfl (Nat.zero_le _) (by rw [lL, lR]; unfold maxLen; omega)
    rw [lL, lR] at hg
    have e1 : o + (n - (o + 1)) = n - 1 := by omega
    rw [e1] at hg hr
    refine ⟨_, _, _, hr, Rc.Own.sl hg, ((Touch.refl _ w).drew).alloc _, fun a ha => ?_⟩
    injection ha with ha
    subst ha
    exact (Rc.own_block hg rfl).2

end Go.Proofs.YtdcpmpbfnfjncaaDoor

namespace Go.Proofs.YtdcpmpbfnfjncaaDoor
open Go.RowKit

set_option maxRecDepth 100000 in
set_option maxHeartbeats 4000000 in
theorem lendState_any (c : Cf) (M : List Int) (mo : Option Addr) (mc : Nat) (K : List Kv) (ko : Option Addr) (kc : Nat) (w : World) (hm : Seg w .i64 mo M) (hb : M.length ≤ 17592186043904) (hk : encK.Sl w ko kc K) (hw : ∀ j, j < K.length → encW.Sl w (K.getD j kv0).wo (K.getD j kv0).cap (K.getD j kv0).k.wi ∧ (K.getD j kv0).k.wi.length ≤ 1954687338300) (hl : K.length ≤ 3000000000000) :
    Calls Tryd.prog 4 #[.agg (stc c (.slice mo M.length mc) (.slice ko K.length kc))] w fun e w' => ∃ gm cm gk ck L, e = .returned (.agg (stc c (.slice (some ⟨gm, 0, none⟩) M.length cm) (.slice (some ⟨gk, 0, none⟩) K.length ck))) ∧ LentS w' w.heap.size gm cm M gk ck K L ∧ Calm w w' := by
  have CI : Hid (∀ W, Calm w W → Calls Tryd.prog 10 #[.slice mo M.length mc] W fun e w' => ∃ g c, e = .returned (.slice (some ⟨g, 0, none⟩) M.length c) ∧ W.heap.size ≤ g ∧ Lent w' g c M ∧ Calm W w') := hide fun W hW => lend_any mo M mc W (hm.touch hW fun _ _ h => h) hb
  have CL : Hid (∀ j, j < K.length → ∀ W, Calm w W → Calls Tryd.prog 11 #[.agg (kvc (K.getD j kv0))] W fun e w' => ∃ g c, e = .returned (.agg (ksc (K.getD j kv0).k (some ⟨g, 0, none⟩) c)) ∧ LentK w' W.heap.size g c (K.getD j kv0).k.wi ∧ Calm W w') := hide fun j hj W hW => lendKey_any _ _ _ W (Rc.Sl.calm (hw j hj).1 hW) (hw j hj).2
  have AK := hide (keys_W hk.mem)
  obtain ⟨B0, T0, A0⟩ : Hid ((w.alloc (.cells (stc c (.slice mo M.length mc) (.slice ko K.length kc)) 28)).heap[w.heap.size]? = some (.cells (stc c (.slice mo M.length mc) (.slice ko K.length kc)) 28 (0, 0))) ∧ Hid (Calm w (w.alloc (.cells (stc c (.slice mo M.length mc) (.slice ko K.length kc)) 28))) ∧ Hid ((w.alloc (.cells (stc c (.slice mo M.length mc) (.slice ko K.length kc)) 28)).heap.size = w.heap.size + 1) := ⟨hide (al_new _ _), hide ((Touch.refl _ w).alloc _), hide (al_size _ _)⟩
  have hi12 : (Tryd.prog.info? 28).map (·.size) = some 12 := by kernel_rfl
  clear hm hk hw
  go_enter Tryd.func4, Tryd.ntmps4
  go_wp2_with fail
  have AB : Hid (((w.alloc (.cells (stc c (.slice mo M.length mc) (.slice ko K.length kc)) 28)).alloc (.cells stz 28)).heap[w.heap.size]? = some (.cells (stc c (.slice mo M.length mc) (.slice ko K.length kc)) 28 (0, 0))) := hide (al_old B0.out _)
  have AZ : Hid (((w.alloc (.cells (stc c (.slice mo M.length mc) (.slice ko K.length kc)) 28)).alloc (.cells stz 28)).heap[w.heap.size + 1]? = some (.cells stz 28 (0, 0))) := hide (by
    have := al_new (w.alloc (.cells (stc c (.slice mo M.length mc) (.slice ko K.length kc)) 28)) (.cells stz 28)
    rwa [A0.out] at this)
  have TB : Hid (Calm w ((w.alloc (.cells (stc c (.slice mo M.length mc) (.slice ko K.length kc)) 28)).alloc (.cells stz 28))) := hide (T0.out.alloc _)
  have SB : Hid (((w.alloc (.cells (stc c (.slice mo M.length mc) (.slice ko K.length kc)) 28)).alloc (.cells stz 28)).heap.size = w.heap.size + 1 + 1) := hide (by rw [al_size, A0.out])
  clear B0 T0 A0
  generalize hB : w.heap.size = B at *
  generalize hwB : (w.alloc (.cells (stc c (.slice mo M.length mc) (.slice ko K.length kc)) 28)).alloc (.cells stz 28) = wB at *
  clear hwB
  generalize hn : K.length = n at *
  generalize hmn : M.length = m at *
  refine wp_region_held (S := Calm wB) (by kernel_rfl) ?_
  have hT0 : Calm wB { wB with drawn := wB.drawn + 1 } := (Touch.refl _ wB).drew
  have hC0 : Calm wB { wB with drawn := wB.drawn + 1 } := (Touch.refl _ wB).drew
  refine wpAnyH_yield 0 6 (.pointer (some ⟨B, 0, none⟩)) rfl rfl (by kernel_rfl) (by kernel_rfl) (by kernel_rfl) (fun _ _ _ h => h) (by kernel_rfl) (fun W hW => by go_simp) (by assumption) rfl rfl ?_
  simp only [Act.put, List.setIfInBounds_toArray, List.set_cons_zero, List.set_cons_succ]
  refine wpAnyH_yield 1 7 (cfv c) rfl rfl (by kernel_rfl) (by kernel_rfl) (by kernel_rfl) (fun _ _ _ h => h) (by kernel_rfl) (fun W hW => by obtain ⟨⟨g0, g1, g2, g3, g4, g5⟩, ⟨g6, g7, g8, g9⟩, -⟩ := st_cells (hW.at AB.out); go_simp) (by assumption) rfl rfl ?_
  simp only [Act.put, List.setIfInBounds_toArray, List.set_cons_zero, List.set_cons_succ]
  refine wpAnyH_yield 2 8 (.pointer (some ⟨B, 10, none⟩)) rfl rfl (by kernel_rfl) (by kernel_rfl) (by kernel_rfl) (fun _ _ _ h => h) (by kernel_rfl) (fun W hW => by go_simp) (by assumption) rfl rfl ?_
  simp only [Act.put, List.setIfInBounds_toArray, List.set_cons_zero, List.set_cons_succ]
  refine wpAnyH_yield 3 9 (.slice mo m mc) rfl rfl (by kernel_rfl) (by kernel_rfl) (by kernel_rfl) (fun _ _ _ h => h) (by kernel_rfl) (fun W hW => by obtain ⟨-, -, g10, -⟩ := st_cells (hW.at AB.out); go_simp) (by assumption) rfl rfl ?_
  simp only [Act.put, List.setIfInBounds_toArray, List.set_cons_zero, List.set_cons_succ]
  refine wpAnyH_names fun ops Q a0 hops hQ ha => ?_
  obtain ⟨F, hF⟩ : ∃ F : (Nat → Value) → Value → Act, F = fun vs p => ((a0.put (some 10) (vs 0)).put (some 11) (vs 1)).put (some 3) p := ⟨_, rfl⟩
  have f0 : a0 = F (fun _ => undef) undef := by rw [hF, ha]; kernel_rfl
  have g0 : ∀ vs p x, (F vs p).put (some 10) x = F (upd vs 0 x) p := fun vs p x => by rw [hF, ha]; kernel_rfl
  have g1 : ∀ vs p x, (F vs p).put (some 11) x = F (upd vs 1 x) p := fun vs p x => by rw [hF, ha]; kernel_rfl
  have g4 : ∀ vs x, (F vs undef).put (some 3) x = F vs x := fun vs x => by rw [hF, ha]; kernel_rfl
  rw [f0]
  refine wpAnyH_float (m := 2) (fuel := 1) (fun k => [4, 5].getD k 0) 6 3 (.cells stz 28) F (fun k b => #[true, true, true, true, decide (1 ≤ k), decide (2 ≤ k), b, false])
    (fun k vs W => (k = 1 → ∃ g c, vs 0 = .slice (some ⟨g, 0, none⟩) m c ∧ Lent W g c M) ∧ (k = 2 → ∃ g cm, vs 1 = .agg (stc c (.slice (some ⟨g, 0, none⟩) m cm) (.slice none 0 0)) ∧ Lent W g cm M)) wB
    (by rw [hops]; rfl) rfl (fun vs p => by rw [hops]; kernel_rfl) (fun vs W => by kernel_rfl) g4 ?hLf ?hLi ?r0 ?r1 ?r2 ?hI (fun W h => h) ?step ?tail _ _ ⟨fun h => (nomatch h), fun h => (nomatch h)⟩ hC0
  case hLf => intro k hk; rcases (by omega : k = 0 ∨ k = 1 ∨ k = 2) with rfl | rfl | rfl <;> rfl
  case hLi => intro k b hk; rcases (by omega : k = 0 ∨ k = 1) with rfl | rfl <;> rfl
  case r0 => intro k hk; subst hops; rcases (by omega : k = 0 ∨ k = 1) with rfl | rfl <;> kernel_rfl
  case r1 => intro k hk; subst hops; rcases (by omega : k = 0 ∨ k = 1) with rfl | rfl <;> kernel_rfl
  case r2 => subst hops; kernel_rfl
  case hI =>
    rintro k vs W W' ⟨h1, h2⟩ hW
    exact ⟨fun h => by obtain ⟨g, c, e, f⟩ := h1 h; exact ⟨g, c, e, f.calm hW⟩, fun h => by obtain ⟨g, c, e, f⟩ := h2 h; exact ⟨g, c, e, f.calm hW⟩⟩
  case step =>
    rintro k vs p' W K' hk ⟨h1, h2⟩ hc hK
    subst hops
    rcases (by omega : k = 0 ∨ k = 1) with rfl | rfl
    · refine wpOp_enter 4 10 10 #[.slice mo m mc] rfl rfl (by kernel_rfl) (by rw [hF, ha]; kernel_rfl) ?_
      refine (CI.out _ (TB.out.tr hc)).mono ?_
      rintro r W' ⟨g, cm, rfl, -, L1, hW⟩
      exact ⟨_, rfl, by rw [g0]; exact hK _ _ hW ⟨fun _ => ⟨g, cm, rfl, L1⟩, fun h => (nomatch h)⟩⟩
    · obtain ⟨g, cm, e, f⟩ := h1 rfl
      refine wpOp_value 5 11 (.agg (stc c (.slice (some ⟨g, 0, none⟩) m cm) (.slice none 0 0))) (w' := W) rfl rfl (by kernel_rfl) (by rw [hF, ha]; simp only [e]; kernel_rfl) ?_
      rw [g1]
      exact hK _ _ (Touch.refl _ _) ⟨fun h => (nomatch h), fun _ => ⟨g, cm, rfl, f⟩⟩
  case tail =>
    rintro vs D W ⟨-, h2⟩ hc hD hh
    obtain ⟨gm, cm, e, LM⟩ := h2 rfl
    generalize hv0 : vs 0 = v0
    rw [hF, ha]
    simp only [e, hv0]
    subst hops hQ
    clear hF ha f0 g0 g1 g4 h2 e hv0 CI
    simp only [Act.put, List.setIfInBounds_toArray, List.set_cons_zero, List.set_cons_succ]
    have h1c : (stc c (.slice (some ⟨gm, 0, none⟩) m cm) (.slice none 0 0)).all (·.oneCell') = true := by simp [Value.oneCell']
    have A4 := setRow_heap _ _ _ (stc c (.slice (some ⟨gm, 0, none⟩) m cm) (.slice none 0 0)) _ _ hh
    have tS : Touch (fun g => g = D) W (W.setRow D (stc c (.slice (some ⟨gm, 0, none⟩) m cm) (.slice none 0 0))) := ⟨rfl, rfl, rfl, by simp, fun j _ hj => setRow_other _ _ j _ hj⟩
    have hT4 : Calm wB (W.setRow D (stc c (.slice (some ⟨gm, 0, none⟩) m cm) (.slice none 0 0))) := hc.trans tS (fun g hg e => by omega)
    have LM4 : Lent (W.setRow D (stc c (.slice (some ⟨gm, 0, none⟩) m cm) (.slice none 0 0))) gm cm M := LM.touch tS (by obtain ⟨cur, hg⟩ := LM.heap; exact st_notI hh hg)
    refine wpAnyH_do 7 (W.setRow D (stc c (.slice (some ⟨gm, 0, none⟩) m cm) (.slice none 0 0))) rfl (by kernel_rfl) (by kernel_rfl) (fun K' hK => wp_store_row 28 (.tmp 3) (.tmp 11) rfl D (stc c (.slice (some ⟨gm, 0, none⟩) m cm) (.slice none 0 0)) rfl rfl 28 _ hh hi12 rfl h1c hK) hT4 ?_
    refine wpAnyH_done (by kernel_rfl) ?_ _
    have HA4 := hide A4
    have HL4 := hide LM4
    have HT4 := hide hT4
    have HD := hide hD
    clear hT0 hC0 hc hD hh LM h1c A4 tS hT4 LM4
    generalize W.setRow D (stc c (.slice (some ⟨gm, 0, none⟩) m cm) (.slice none 0 0)) = w3 at *
    go_wp2_with fail
    go_loopw [4] (fun s4 wr => ∃ (i : Nat) (a1 : Option Addr) (c1 : Nat) (L : List Kv), s4 = .int .i64 (i : Int) ∧ i ≤ n ∧ wr.heap[D]? = some (.cells (stc c (.slice (some ⟨gm, 0, none⟩) m cm) (.slice a1 i c1)) 28 (0, 0)) ∧ encK.Own 40 wr (B + 1 + 1) (.slice a1 i c1) L ∧ LentKs wr (B + 1 + 1) i K L ∧ Lent wr gm cm M ∧ Calm wB wr) (fun s4 _ => n - (intOf s4).toNat)
    case atStart => exact ⟨0, none, 0, [], rfl, by omega, HA4.out, Rc.Own.nil _ _ _, ⟨rfl, fun j hj => by omega⟩, HL4.out, HT4.out⟩
    case round =>
      obtain ⟨i, a1, c1, L, rfl, hi, AE, OE, LE, ME, TE⟩ := hrel
      clear HA4 HL4 HT4
      obtain ⟨-, -, -, b11⟩ := st_cells (TE.at AB.out)
      by_cases hlt : i < n
      · have hltz : (i : Int) < (n : Int) := by omega
        obtain ⟨gk, off, rfl, hW⟩ := AK.out i (by omega)
        have nD := own_notS OE AE
        have C1 := hide (CL.out i hlt)
        have HKC : Hid (∀ W, Calm w W → W.cell? ⟨gk, off + i * 3, none⟩ = some (.string (K.getD i kv0).k.ke) ∧ W.cell? ⟨gk, off + i * 3 + 1, none⟩ = some (.int .i64 (K.getD i kv0).k.dr) ∧ W.cell? ⟨gk, off + i * 3 + 2, none⟩ = some (.slice (K.getD i kv0).wo (K.getD i kv0).k.wi.length (K.getD i kv0).cap)) := hide hW
        have KD : Hid (∀ W, Touch (fun d => (Value.slice a1 i c1).ownBlock = some d) wr W → W.cell? ⟨D, 11, none⟩ = some (.slice a1 i c1) ∧ W.cell? ⟨B, 11, none⟩ = some (.slice (some ⟨gk, off, none⟩) n kc) ∧ Calm w W) := hide fun W hW => by
          refine ⟨(st_cells (hW.heap AE nD)).2.2.2, ?_, ?_⟩
          · exact (st_cells (hW.heap (TE.at AB.out) (own_notS OE (TE.at AB.out)))).2.2.2
          · exact TB.out.tr (Rc.Own.fresh (w0 := wB) OE hW (fun _ h => h) TE (by rw [SB.out]; exact Nat.le_refl _))
        have HAE := hide AE
        have HOE := hide OE
        have HLE := hide LE
        have HME := hide ME
        have HTE := hide TE
        have HnD := hide nD
        have NX : Hid (∀ W base2 g c', LentKs W (B + 1 + 1) i K L → LentK W base2 g c' (K.getD i kv0).k.wi → B + 1 + 1 ≤ base2 → LentKs W (B + 1 + 1) (i + 1) K (L ++ [⟨(K.getD i kv0).k, some ⟨g, 0, none⟩, c'⟩])) := hide fun W base2 g c' h1 h2 h3 => h1.next h2 h3
        clear AE OE LE ME TE nD CL AK hW
        generalize K.getD i kv0 = x at *
        go_wp2_with fail
        refine wp_region_z 11 (Touch (fun d => (Value.slice a1 i c1).ownBlock = some d) wr) (by kernel_rfl) ?_
        have hT0 : Touch (fun d => (Value.slice a1 i c1).ownBlock = some d) wr { wr with drawn := wr.drawn + 1 } := (Touch.refl _ wr).drew
        refine wpAnyZ_yield 0 19 (.pointer (some ⟨D, 11, none⟩)) [11] rfl rfl (by kernel_rfl) (by kernel_rfl) (by kernel_rfl) (by kernel_rfl) (by kernel_rfl) (fun _ _ _ h => h) (by kernel_rfl) (fun W hW => by go_simp) (by assumption) rfl rfl ?_
        simp only [Act.put, List.setIfInBounds_toArray, List.set_cons_zero, List.set_cons_succ]
        refine wpAnyZ_yield 1 20 (.slice a1 i c1) [11] rfl rfl (by kernel_rfl) (by kernel_rfl) (by kernel_rfl) (by kernel_rfl) (by kernel_rfl) (fun _ _ _ h => h) (by kernel_rfl) (fun W hW => by obtain ⟨q, -⟩ := KD.out W hW; go_simp) (by assumption) rfl rfl ?_
        simp only [Act.put, List.setIfInBounds_toArray, List.set_cons_zero, List.set_cons_succ]
        refine wpAnyZ_yield 2 21 (.pointer (some ⟨B, 11, none⟩)) [11] rfl rfl (by kernel_rfl) (by kernel_rfl) (by kernel_rfl) (by kernel_rfl) (by kernel_rfl) (fun _ _ _ h => h) (by kernel_rfl) (fun W hW => by go_simp) (by assumption) rfl rfl ?_
        simp only [Act.put, List.setIfInBounds_toArray, List.set_cons_zero, List.set_cons_succ]
        refine wpAnyZ_yield 3 22 (.slice (some ⟨gk, off, none⟩) n kc) [11] rfl rfl (by kernel_rfl) (by kernel_rfl) (by kernel_rfl) (by kernel_rfl) (by kernel_rfl) (fun _ _ _ h => h) (by kernel_rfl) (fun W hW => by obtain ⟨-, q, -⟩ := KD.out W hW; go_simp) (by assumption) rfl rfl ?_
        simp only [Act.put, List.setIfInBounds_toArray, List.set_cons_zero, List.set_cons_succ]
        refine wpAnyZ_yield 4 23 (.int .i64 (i : Int)) [11] rfl rfl (by kernel_rfl) (by kernel_rfl) (by kernel_rfl) (by kernel_rfl) (by kernel_rfl) (fun _ _ _ h => h) (by kernel_rfl) (fun W hW => by kernel_rfl) (by assumption) rfl rfl ?_
        simp only [Act.put, List.setIfInBounds_toArray, List.set_cons_zero, List.set_cons_succ]
        refine wpAnyZ_yield 5 24 (.pointer (some ⟨gk, off + i * 3, none⟩)) [11] rfl rfl (by kernel_rfl) (by kernel_rfl) (by kernel_rfl) (by kernel_rfl) (by kernel_rfl) (fun _ _ _ h => h) (by kernel_rfl) (fun W hW => by go_simp) (by assumption) rfl rfl ?_
        simp only [Act.put, List.setIfInBounds_toArray, List.set_cons_zero, List.set_cons_succ]
        refine wpAnyZ_yield 6 25 (.agg (kvc x)) [11] rfl rfl (by kernel_rfl) (by kernel_rfl) (by kernel_rfl) (by kernel_rfl) (by kernel_rfl) (fun _ _ _ h => h) (by kernel_rfl) (fun W hW => by obtain ⟨c0, c1, c2⟩ := HKC.out W (KD.out W hW).2.2; go_simp) (by assumption) rfl rfl ?_
        simp only [Act.put, List.setIfInBounds_toArray, List.set_cons_zero, List.set_cons_succ]
        refine wpAnyZ_enter 7 26 11 #[.agg (kvc x)] rfl rfl (by decide) (by kernel_rfl) (by kernel_rfl) (by kernel_rfl) ?_
        refine (C1.out _ (KD.out _ hT0).2.2).mono ?_
        rintro r w5 ⟨g, c', rfl, L5, T5⟩
        have TW : Calm wr w5 := ((Touch.refl (fun _ => False) wr).drew).tr T5
        have h5 : Touch (fun d => (Value.slice a1 i c1).ownBlock = some d) wr w5 := TW.mono fun _ _ h => h.elim
        refine ⟨_, rfl, h5, ?_⟩
        simp only [Act.put, List.setIfInBounds_toArray, List.set_cons_zero, List.set_cons_succ]
        have O5 := Rc.Own.calm HOE.out TW
        have hiL := HLE.out.len
        rw [← hiL] at O5
        have hsz : B + 1 + 1 ≤ wr.heap.size := by have := HTE.out.size; have := SB.out; omega
        have hsz5 : B + 1 + 1 ≤ w5.heap.size := by have := TW.size; omega
        obtain ⟨a2, p2, w6, hr, ow, t2⟩ := ks_app1 ⟨x.k, some ⟨g, 0, none⟩, c'⟩ O5 hsz5 (by omega)
        have nW := fun g' cur => own_notW (g := g') (cur := cur) O5
        have nI := fun g' cur => own_notI (g := g') (cur := cur) O5
        have e1 : (L ++ [(⟨x.k, some ⟨g, 0, none⟩, c'⟩ : Kv)]).length = i + 1 := by simp [hiL]
        have LK6 := NX.out w6 _ g c' ((HLE.out.calm TW).touch t2 nW) (Rc.Own.touch L5 t2 fun g' hg' => by obtain ⟨-, cur, hc⟩ := Rc.own_block L5 hg'; exact nW g' cur hc) (by rw [show ({ wr with drawn := wr.drawn + 1 } : World).heap.size = wr.heap.size from rfl]; exact hsz)
        have LM6 : Lent w6 gm cm M := (HME.out.calm TW).touch t2 (by obtain ⟨cur, hg⟩ := (HME.out.calm TW).heap; exact nI _ cur hg)
        rw [e1] at ow
        rw [hiL] at hr t2
        have h6 : Touch (fun d => (Value.slice a1 i c1).ownBlock = some d) wr w6 := h5.trans t2 (fun _ _ h => h)
        refine wpAnyZ_value 8 27 (.slice (some ⟨w5.heap.size, 0, none⟩) 1 1) (w' := w5.alloc (.cells (ksc x.k (some ⟨g, 0, none⟩) c') 40)) rfl rfl (by decide) (by kernel_rfl) (by kernel_rfl) (by go_simp) (h5.alloc _) ?_
        simp only [Act.put, List.setIfInBounds_toArray, List.set_cons_zero, List.set_cons_succ]
        refine wpAnyZ_value 9 28 (.slice a2 (i + 1) p2) (w' := w6) rfl rfl (by decide) (by kernel_rfl) (by kernel_rfl) (exec_apk (.tmp 20) (.tmp 27) 26 26 rfl _ _ _ rfl rfl hr) h6 ?_
        simp only [Act.put, List.setIfInBounds_toArray, List.set_cons_zero, List.set_cons_succ]
        refine wpAnyZ_yield 10 29 (.pointer (some ⟨D, 11, none⟩)) [11] rfl rfl (by kernel_rfl) (by kernel_rfl) (by kernel_rfl) (by kernel_rfl) (by kernel_rfl) (fun _ _ _ h => h) (by kernel_rfl) (fun W hW => by go_simp) (by assumption) rfl rfl ?_
        simp only [Act.put, List.setIfInBounds_toArray, List.set_cons_zero, List.set_cons_succ]
        refine wpAnyZ_end rfl (by kernel_rfl) (by kernel_rfl) (by kernel_rfl) ?_
        have A6 := h6.heap HAE.out HnD.out
        have cD : w6.cell? ⟨D, 11, none⟩ = some (.slice a1 i c1) := (st_cells A6).2.2.2
        have fD : w6.frozen? ⟨D, 11, none⟩ = false := by simp [World.frozen?, A6]
        have A7 : Hid ((w6.setCell ⟨D, 11, none⟩ (.slice a2 (i + 1) p2)).heap[D]? = some (.cells (stc c (.slice (some ⟨gm, 0, none⟩) m cm) (.slice a2 (i + 1) p2)) 28 (0, 0))) := hide (Cg2.heap_put (i := 11) A6 (.slice a2 (i + 1) p2))
        have nD6 := own_notS ow A6
        have tS : Touch (fun d => d = D) w6 (w6.setCell ⟨D, 11, none⟩ (.slice a2 (i + 1) p2)) := (Touch.refl (fun k => k = D) w6).setCell (p := ⟨D, 11, none⟩) (fun _ => rfl) _
        have O7 := hide (Rc.Own.touch ow tS fun g hg e => nD6 (e ▸ hg))
        have L7 := hide (LK6.touch tS fun g' cur hg => st_notW A6 hg)
        have M7 := hide (LM6.touch tS (by obtain ⟨cur, hg⟩ := LM6.heap; exact st_notI A6 hg))
        have T6 : Calm wB w6 := Rc.Own.fresh (w0 := wB) HOE.out h6 (fun _ h => h) HTE.out (by rw [SB.out]; exact Nat.le_refl _)
        have T7 := hide (T6.trans tS (fun g hg e => by have := HD.out; have := SB.out; omega))
        clear hT0 T5 TW h5 O5 hr ow t2 h6 A6 nD6 tS T6 e1 C1 KD HAE HOE HLE HME HTE HnD L5 nW nI LK6 LM6 hsz hsz5 NX HKC
        unfold Oper.wp
        go_simp
        go_wp2_with fail
        go_roundw
        case rel => exact ⟨i + 1, a2, p2, _, by go_num, by omega, A7.out, O7.out, L7.out, M7.out, T7.out⟩
        case measure => simp [intOf]; omega
      · have hltz : ¬ (i : Int) < (n : Int) := by omega
        obtain rfl : i = n := by omega
        have HAE := hide AE
        have HOE := hide OE
        have HLE := hide LE
        have HME := hide ME
        have HTE := hide TE
        clear AE OE LE ME TE CL AK
        go_wp2_with fail
        have hiL := HLE.out.len
        go_loopw [5] (fun s5 wr => ∃ (j q : Nat) (a1 : Option Addr) (c1 : Nat), s5 = .int .i64 (j : Int) ∧ j ≤ 3 ∧ q = (L ++ rms.take j).length ∧ wr.heap[D]? = some (.cells (stc c (.slice (some ⟨gm, 0, none⟩) m cm) (.slice a1 q c1)) 28 (0, 0)) ∧ encK.Own 40 wr (B + 1 + 1) (.slice a1 q c1) (L ++ rms.take j) ∧ LentKs wr (B + 1 + 1) i K L ∧ Lent wr gm cm M ∧ Calm wB wr) (fun s5 _ => 3 - (intOf s5).toNat)
        case atStart => exact ⟨0, i, a1, c1, rfl, by omega, by simp [hiL], HAE.out, by simpa using HOE.out, HLE.out, HME.out, HTE.out⟩
        case round =>
          obtain ⟨j, q, a2, c2, rfl, hj, hq, AE, OE, LE, ME, TE⟩ := hrel
          clear HAE HOE HLE HME HTE b11
          by_cases hlt3 : j < 3
          · have hltz3 : (j : Int) < 3 := by omega
            have nD := own_notS OE AE
            have hlen : (L ++ rms.take j).length ≤ i + 3 := by rw [List.length_append, List.length_take, hiL]; simp; omega
            have hsz : B + 1 + 1 ≤ wr.heap.size := by have := TE.size; have := SB.out; omega
            have OE1 := OE
            rw [hq] at OE1
            obtain ⟨a4, p4, w4, hr, ow, t2⟩ := ks_app1 (rmK j) OE1 hsz (by omega)
            rw [List.append_assoc, ← rms_next hlt3] at ow
            have e1 : (L ++ rms.take (j + 1)).length = q + 1 := by rw [rms_next hlt3, ← List.append_assoc, List.length_append, ← hq]; rfl
            rw [e1] at ow
            rw [← hq] at hr t2
            have A6 := t2.heap AE nD
            have cD0 : wr.cell? ⟨D, 11, none⟩ = some (.slice a2 q c2) := (st_cells AE).2.2.2
            have cD : w4.cell? ⟨D, 11, none⟩ = some (.slice a2 q c2) := (st_cells A6).2.2.2
            have fD : w4.frozen? ⟨D, 11, none⟩ = false := by simp [World.frozen?, A6]
            have A7 : Hid ((w4.setCell ⟨D, 11, none⟩ (.slice a4 (q + 1) p4)).heap[D]? = some (.cells (stc c (.slice (some ⟨gm, 0, none⟩) m cm) (.slice a4 (q + 1) p4)) 28 (0, 0))) := hide (Cg2.heap_put (i := 11) A6 (.slice a4 (q + 1) p4))
            have nD6 := own_notS ow A6
            have tS : Touch (fun d => d = D) w4 (w4.setCell ⟨D, 11, none⟩ (.slice a4 (q + 1) p4)) := (Touch.refl (fun k => k = D) w4).setCell (p := ⟨D, 11, none⟩) (fun _ => rfl) _
            have O7 := hide (Rc.Own.touch ow tS fun g hg e => nD6 (e ▸ hg))
            have LK6 := LE.touch t2 fun g' cur hg => own_notW OE hg
            have LM6 : Lent w4 gm cm M := ME.touch t2 (by obtain ⟨cur, hg⟩ := ME.heap; exact own_notI OE hg)
            have L7 := hide (LK6.touch tS fun g' cur hg => st_notW A6 hg)
            have M7 := hide (LM6.touch tS (by obtain ⟨cur, hg⟩ := LM6.heap; exact st_notI A6 hg))
            have T6 : Calm wB w4 := Rc.Own.fresh (w0 := wB) OE t2 (fun _ h => h) TE (by rw [SB.out]; exact Nat.le_refl _)
            have T7 := hide (T6.trans tS (fun g hg e => by have := HD.out; have := SB.out; omega))
            have HR := hide hr
            have E1 := hide e1
            clear AE OE OE1 LE ME TE nD hr ow t2 A6 nD6 tS T6 e1 LK6 LM6 hsz hlen hq
            go_wp2_with (at_builtin; refine Rc.wpList_appR rfl (.tmp 35) (.tmp 38) 26 26 rfl _ _ _ rfl rfl HR.out ?_)
            go_roundw
            case rel => exact ⟨j + 1, q + 1, a4, p4, by go_num, by omega, E1.out.symm, A7.out, O7.out, L7.out, M7.out, T7.out⟩
            case measure => simp [intOf]; omega
          · have hltz3 : ¬ (j : Int) < 3 := by omega
            obtain rfl : j = 3 := by omega
            have e3 : rms.take 3 = rms := rfl
            rw [e3] at hq OE
            obtain ⟨i0, hi0, -, -, -⟩ := Rc.info_parts infoKs
            have hg : ∃ g, a2 = some ⟨g, 0, none⟩ := by
              obtain ⟨-, h2, -, -, -, h6⟩ := Rc.Own.mem OE
              obtain ⟨b, off, e, -⟩ := Rc.Mem.at h2 L.length (by simp)
              have := (h6 _ e).2.1
              simp only at this
              subst this
              exact ⟨b, e⟩
            obtain ⟨g, rfl⟩ := hg
            have hc1 : q ≤ c2 := by have := (Rc.Own.mem OE).2.2.1; rw [hq]; exact this
            have hln : i ≤ q := by rw [hq, List.length_append, hiL]; omega
            have hcut := fun W => cut_to (g := g) (n := q) (cap := c2) (k := i) Tryd.underlying26 elemKs hi0 (by omega) W
            obtain ⟨-, -, -, b11⟩ := st_cells (TE.at AB.out)
            have cD := st_cells AE
            obtain ⟨⟨d0, d1, d2, d3, d4, d5⟩, ⟨d6, d7, d8, d9⟩, d10, d11⟩ := cD
            have fD : wr.frozen? ⟨D, 11, none⟩ = false := by simp [World.frozen?, AE]
            have nD := own_notS OE AE
            have tS : Touch (fun d => d = D) wr (wr.setCell ⟨D, 11, none⟩ (.slice (some ⟨g, 0, none⟩) i c2)) := (Touch.refl (fun k => k = D) wr).setCell (p := ⟨D, 11, none⟩) (fun _ => rfl) _
            have O7 := Rc.Own.touch OE tS fun g hg e => nD (e ▸ hg)
            have L7 := LE.touch tS fun g' cur hg => st_notW AE hg
            have M7 := ME.touch tS (by obtain ⟨cur, hg⟩ := ME.heap; exact st_notI AE hg)
            have T7 : Calm wB (wr.setCell ⟨D, 11, none⟩ (.slice (some ⟨g, 0, none⟩) i c2)) := TE.trans tS (fun g hg e => by have := HD.out; have := SB.out; omega)
            have AZ7 := hide (T7.at AZ.out)
            have A8 := hide (setRow_heap _ _ _ (stc c (.slice (some ⟨gm, 0, none⟩) m cm) (.slice (some ⟨g, 0, none⟩) i c2)) _ _ AZ7.out)
            have tR : Touch (fun d => d = B + 1) (wr.setCell ⟨D, 11, none⟩ (.slice (some ⟨g, 0, none⟩) i c2)) ((wr.setCell ⟨D, 11, none⟩ (.slice (some ⟨g, 0, none⟩) i c2)).setRow (B + 1) (stc c (.slice (some ⟨gm, 0, none⟩) m cm) (.slice (some ⟨g, 0, none⟩) i c2))) := ⟨rfl, rfl, rfl, by simp, fun j _ hj => setRow_other _ _ j _ hj⟩
            have O8 := Rc.Own.touch O7 tR fun g hg e => by have := (Rc.own_block O7 hg).1; omega
            have L8 := L7.touch tR fun g' cur hg => st_notW AZ7.out hg
            have M8 := M7.touch tR (by obtain ⟨cur, hg⟩ := M7.heap; exact st_notI AZ7.out hg)
            rw [hq] at O8
            have T8 : Calm w ((wr.setCell ⟨D, 11, none⟩ (.slice (some ⟨g, 0, none⟩) i c2)).setRow (B + 1) (stc c (.slice (some ⟨gm, 0, none⟩) m cm) (.slice (some ⟨g, 0, none⟩) i c2))) := (TB.out.tr T7).trans tR (fun g hg e => by omega)
            have HR : Hid (∃ gm' cm' gk' ck' L', Ending.returned (.agg (stc c (.slice (some ⟨gm, 0, none⟩) m cm) (.slice (some ⟨g, 0, none⟩) i c2))) = .returned (.agg (stc c (.slice (some ⟨gm', 0, none⟩) m cm') (.slice (some ⟨gk', 0, none⟩) i ck'))) ∧ LentS ((wr.setCell ⟨D, 11, none⟩ (.slice (some ⟨g, 0, none⟩) i c2)).setRow (B + 1) (stc c (.slice (some ⟨gm, 0, none⟩) m cm) (.slice (some ⟨g, 0, none⟩) i c2))) B gm' cm' M gk' ck' K L' ∧ Calm w ((wr.setCell ⟨D, 11, none⟩ (.slice (some ⟨g, 0, none⟩) i c2)).setRow (B + 1) (stc c (.slice (some ⟨gm, 0, none⟩) m cm) (.slice (some ⟨g, 0, none⟩) i c2)))) := hide ⟨gm, cm, g, c2, L, rfl, ⟨M8, Rc.Own.base O8 (by omega), by rw [hn]; exact L8.low (by omega)⟩, T8⟩
            have h1c : Hid ((stc c (.slice (some ⟨gm, 0, none⟩) m cm) (.slice (some ⟨g, 0, none⟩) i c2)).all (·.oneCell') = true) := hide (by simp [Value.oneCell'])
            clear nD tS O7 L7 M7 T7 tR O8 L8 M8 T8 OE LE ME TE AE hq AB AZ TB SB HD
            go_wp2_with (refine wpList_store_rowTo rfl 28 (.tmp 2) (.tmp 48) rfl rfl (B + 1) (stc c (.slice (some ⟨gm, 0, none⟩) m cm) (.slice (some ⟨g, 0, none⟩) i c2)) rfl rfl 28 _ AZ7.out hi12 rfl h1c.out ?_)
            refine bodyPost_ret (results_cell_row rfl _ _ _ _ _ _ _ rfl A8.out Tryd.underlying28 rfl (by kernel_rfl)) rfl ?_
            obtain ⟨y1, y2, y3, y4, y5, y6, y7, y8⟩ := HR.out
            first | exact ⟨y1, y2, y3, y4, y5, y6, y7, y8⟩ | exact ⟨y1, y2, y3, y4, y6, ⟨y5, y7⟩, y8⟩

end Go.Proofs.YtdcpmpbfnfjncaaDoor
