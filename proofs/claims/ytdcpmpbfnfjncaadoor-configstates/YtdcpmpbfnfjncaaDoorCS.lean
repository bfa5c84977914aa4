/- States (the document's State). -/
import Derived.Test.YtdcpmpbfnfjncaaDoorCK
namespace Go.Proofs.YtdcpmpbfnfjncaaDoor
open Go.RowKit

/-- Whole numbers as records of one cell. -/
def encJ : Rc.Enc Int := ⟨1, fun x => [.int .i64 x], fun _ => rfl, fun _ u hu => by simp at hu; subst hu; rfl, by decide⟩
theorem ints_at {w : World} {ao : Option Addr} {L : List Int} (h : encJ.Mem w ao L) (j : Nat) (hj : j < L.length) : ∃ b off, ao = some ⟨b, off, none⟩ ∧ w.cell? ⟨b, off + j, none⟩ = some (.int .i64 (L.getD j 0)) := by
  obtain ⟨b, off, e, g⟩ := Rc.Mem.at h j hj
  rw [List.getD_eq_getElem?_getD, List.getElem?_eq_getElem hj]
  have := g 0 _ rfl
  have e1 : encJ.n = 1 := rfl
  rw [e1, Nat.mul_one] at this
  exact ⟨b, off, e, this⟩
/-- A key's state, and where its windows lie. -/
structure Kv where
  k : Ks
  wo : Option Addr
  cap : Nat
abbrev kvc (v : Kv) : Array Value := ksc v.k v.wo v.cap
abbrev kv0 : Kv := ⟨⟨⟨#[]⟩, 0, []⟩, none, 0⟩
def encK : Rc.Enc Kv := ⟨3, fun v => (kvc v).toList, fun _ => rfl, fun _ u hu => by simp at hu; rcases hu with rfl | rfl | rfl <;> rfl, by decide⟩
theorem keys_at {w : World} {ao : Option Addr} {L : List Kv} (h : encK.Mem w ao L) (j : Nat) (hj : j < L.length) : ∃ b off, ao = some ⟨b, off, none⟩ ∧
    w.cell? ⟨b, off + j * 3, none⟩ = some (.string (L.getD j kv0).k.ke) ∧ w.cell? ⟨b, off + j * 3 + 1, none⟩ = some (.int .i64 (L.getD j kv0).k.dr) ∧ w.cell? ⟨b, off + j * 3 + 2, none⟩ = some (.slice (L.getD j kv0).wo (L.getD j kv0).k.wi.length (L.getD j kv0).cap) := by
  obtain ⟨b, off, e, g⟩ := Rc.Mem.at h j hj
  rw [List.getD_eq_getElem?_getD, List.getElem?_eq_getElem hj]
  exact ⟨b, off, e, g 0 _ rfl, g 1 _ rfl, g 2 _ rfl⟩

/-- A state's cells. -/
abbrev stc (c : Cf) (mv kv : Value) : Array Value := #[.int .i64 c.gr, .int .i64 c.so, .int .i64 c.ki, .int .i64 c.sz, .int .i64 c.sl, .int .i64 c.of, .int .i64 c.gp, .int .i64 c.lt, .int .i64 c.ea, .bool c.di, mv, kv]
theorem st_cells {w : World} {b : Nat} {c : Cf} {mv kv : Value} {ty : TypeId} (h : w.heap[b]? = some (.cells (stc c mv kv) ty (0, 0))) :
    (w.cell? ⟨b, 0, none⟩ = some (.int .i64 c.gr) ∧ w.cell? ⟨b, 1, none⟩ = some (.int .i64 c.so) ∧ w.cell? ⟨b, 2, none⟩ = some (.int .i64 c.ki) ∧ w.cell? ⟨b, 3, none⟩ = some (.int .i64 c.sz) ∧ w.cell? ⟨b, 4, none⟩ = some (.int .i64 c.sl) ∧ w.cell? ⟨b, 5, none⟩ = some (.int .i64 c.of)) ∧
    (w.cell? ⟨b, 6, none⟩ = some (.int .i64 c.gp) ∧ w.cell? ⟨b, 7, none⟩ = some (.int .i64 c.lt) ∧ w.cell? ⟨b, 8, none⟩ = some (.int .i64 c.ea) ∧ w.cell? ⟨b, 9, none⟩ = some (.bool c.di)) ∧ w.cell? ⟨b, 10, none⟩ = some mv ∧ w.cell? ⟨b, 11, none⟩ = some kv := by simp [World.cell?, h]

/-- Is a key ahead of another one? -/
def keyLt (a b : ByteArray) : Bool := Op.bytesLess a.toList b.toList
/-- The key's state of that place may stand behind those ahead of it. -/
def stAt (c : Cf) (K : List Kv) (i : Nat) : Bool := keyB c (K.getD i kv0).k && (!((K.getD i kv0).k.wi.length == 0 && (K.getD i kv0).k.dr == 0) && (i == 0 || keyLt (K.getD (i - 1) kv0).k.ke (K.getD i kv0).k.ke))
/-- What the document's State answers. -/
def stateN (c : Cf) (M : List Int) (K : List Kv) : Int :=
  if wrongN c = 0 then if (M.length : Int) = c.so then if (List.range M.length).all (fun i => timeB (M.getD i 0)) then if (List.range K.length).all (fun i => stAt c K i) then 0 else 6 else 6 else 6 else 4

theorem geq_str (t : TypeId) (a b : ByteArray) : binOp .geq t (.string a) (.string b) = pure (.bool (!keyLt a b)) := by
  unfold keyLt
  simp [binOp, Op.stringOp]

set_option maxRecDepth 100000 in
set_option maxHeartbeats 8000000 in
theorem rstate_any (c : Cf) (M : List Int) (mo : Option Addr) (mc : Nat) (K : List Kv) (ko : Option Addr) (kc : Nat) (w : World) (hm : encJ.Sl w mo mc M) (hk : encK.Sl w ko kc K) (hw : ∀ j, j < K.length → encW.Sl w (K.getD j kv0).wo (K.getD j kv0).cap (K.getD j kv0).k.wi ∧ (K.getD j kv0).k.wi.length ≤ 140737488355328) (hl : M.length ≤ 140737488355328) (hl2 : K.length ≤ 140737488355328) :
    Calls Tryd.prog 7 #[.agg (stc c (.slice mo M.length mc) (.slice ko K.length kc))] w fun e w' => e = .returned (.int .i64 (stateN c M K)) ∧ Calm w w' := by
  have CW := fun w => hide (rwrong_any c w)
  have CT : Hid (∀ t W, Calls Tryd.prog 16 #[.int .i64 t] W fun e w' => e = .returned (.bool (timeB t)) ∧ w' = W) := hide rtime_any
  have CK : Hid (∀ j, j < K.length → ∀ W, Calm w W → Calls Tryd.prog 17 #[cfv c, .agg (kvc (K.getD j kv0))] W fun e w' => e = .returned (.bool (keyB c (K.getD j kv0).k)) ∧ Calm W w') := hide fun j hj W hW => rkey_any c _ _ _ W (Rc.Sl.calm (hw j hj).1 hW) (hw j hj).2
  have AM : Hid (∀ j, j < M.length → ∃ g off, mo = some ⟨g, off, none⟩ ∧ ∀ W, Calm w W → W.cell? ⟨g, off + j, none⟩ = some (.int .i64 (M.getD j 0))) := hide fun j hj => by
    obtain ⟨g, off, e, -⟩ := ints_at hm.mem j hj
    refine ⟨g, off, e, fun W hW => ?_⟩
    obtain ⟨g', off', e', h⟩ := ints_at (Rc.Mem.calm hm.mem hW) j hj
    rw [e] at e'
    injection e' with e'
    injection e' with e1 e2
    subst e1 e2
    exact h
  have AK : Hid (∀ j, j < K.length → ∃ g off, ko = some ⟨g, off, none⟩ ∧ ∀ W, Calm w W → W.cell? ⟨g, off + j * 3, none⟩ = some (.string (K.getD j kv0).k.ke) ∧ W.cell? ⟨g, off + j * 3 + 1, none⟩ = some (.int .i64 (K.getD j kv0).k.dr) ∧ W.cell? ⟨g, off + j * 3 + 2, none⟩ = some (.slice (K.getD j kv0).wo (K.getD j kv0).k.wi.length (K.getD j kv0).cap)) := hide fun j hj => by
    obtain ⟨g, off, e, -⟩ := keys_at hk.mem j hj
    refine ⟨g, off, e, fun W hW => ?_⟩
    obtain ⟨g', off', e', h⟩ := keys_at (Rc.Mem.calm hk.mem hW) j hj
    rw [e] at e'
    injection e' with e'
    injection e' with e1 e2
    subst e1 e2
    exact h
  clear hm hk hw
  have T0 := hide ((Touch.refl (fun _ => False) w).alloc (.cells (stc c (.slice mo M.length mc) (.slice ko K.length kc)) 28))
  have A0 := hide (al_new w (.cells (stc c (.slice mo M.length mc) (.slice ko K.length kc)) 28))
  by_cases hw0 : wrongN c = 0
  · rw [hw0] at CW
    have SN : Hid (stateN c M K = if (M.length : Int) = c.so then if (List.range M.length).all (fun i => timeB (M.getD i 0)) then if (List.range K.length).all (fun i => stAt c K i) then 0 else 6 else 6 else 6) := hide (if_pos hw0)
    generalize stateN c M K = X at *
    by_cases hs : (M.length : Int) = c.so
    · rw [if_pos hs] at SN
      clear hw0
      go_enter Tryd.func7, Tryd.ntmps7
      go_wp2_with fail
      refine (CW _).out.mono ?_
      rintro e w1 ⟨rfl, T1⟩
      have A1 := hide (T1.at A0.out)
      have TL1 := hide (T0.out.tr T1)
      obtain ⟨⟨-, c1, -⟩, -, c10, c11⟩ := st_cells (T1.at A0.out)
      clear CW T0 A0 T1
      go_wp2_with fail
      generalize hB : w.heap.size = B at *
      clear hs c1 c10 c11
      go_loopw [3] (fun s3 wr => ∃ i : Nat, s3 = .int .i64 (i : Int) ∧ i ≤ M.length ∧ Hid (((List.range i).all fun i => timeB (M.getD i 0)) = true) ∧ wr.heap[B]? = some (.cells (stc c (.slice mo M.length mc) (.slice ko K.length kc)) 28 (0, 0)) ∧ Calm w wr) (fun s3 _ => M.length - (intOf s3).toNat)
      case atStart => exact ⟨0, rfl, by omega, hide rfl, A1.out, TL1.out⟩
      case round =>
        obtain ⟨i, rfl, hi, HA, AB, TL⟩ := hrel
        clear A1 TL1
        obtain ⟨-, -, c10, c11⟩ := st_cells AB
        by_cases hlt : i < M.length
        · have hltz : (i : Int) < (M.length : Int) := by omega
          obtain ⟨g, off, rfl, hW⟩ := AM.out i hlt
          have cm := hW wr TL
          have C1 := hide (CT.out (M.getD i 0))
          have N1 : Hid (timeB (M.getD i 0) = false → 6 = X) := hide fun h => by rw [SN.out, all_range_false (f := fun i => timeB (M.getD i 0)) hlt h]; rfl
          have Y1 : Hid (timeB (M.getD i 0) = true → ((List.range (i + 1)).all fun i => timeB (M.getD i 0)) = true) := hide fun h => by rw [all_range_succ, HA.out, h]; rfl
          generalize M.getD i 0 = t at *
          generalize timeB t = tb at *
          have HB := hide AB
          have HT := hide TL
          clear hW HA AB TL CT CK AM AK SN
          go_wp2_with fail
          refine (C1.out _).mono ?_
          rintro e w2 ⟨rfl, rfl⟩
          cases tb with
          | false =>
            have N2 := hide (N1.out rfl)
            clear N1 Y1
            go_wp2_with fail
            go_ret
            exact ⟨by rw [← N2.out]; rfl, HT.out⟩
          | true =>
            have Y2 := hide (Y1.out rfl)
            clear N1 Y1
            go_wp2_with fail
            go_roundw
            case rel => exact ⟨i + 1, by go_num, by omega, Y2.out, HB.out, HT.out⟩
            case measure => simp [intOf]; omega
        · have hltz : ¬ (i : Int) < (M.length : Int) := by omega
          obtain rfl : i = M.length := by omega
          have SN2 : Hid (X = if (List.range K.length).all (fun i => stAt c K i) then 0 else 6) := hide (by rw [SN.out, HA.out]; rfl)
          have HB := hide AB
          have HT := hide TL
          clear HA AB TL CT AM SN
          go_wp2_with fail
          clear c10 c11
          obtain ⟨wo, h⟩ : ∃ x, x = wr := ⟨_, rfl⟩
          subst h
          go_loopw [4] (fun s4 wr => ∃ i : Nat, s4 = .int .i64 (i : Int) ∧ i ≤ K.length ∧ Hid (((List.range i).all fun i => stAt c K i) = true) ∧ wr.heap[B]? = some (.cells (stc c (.slice mo M.length mc) (.slice ko K.length kc)) 28 (0, 0)) ∧ Calm w wr) (fun s4 _ => K.length - (intOf s4).toNat)
          case atStart => exact ⟨0, rfl, by omega, hide rfl, HB.out, HT.out⟩
          case round =>
            obtain ⟨i, rfl, hi, HA, AB, TL⟩ := hrel
            clear HB HT
            obtain ⟨-, -, c10, c11⟩ := st_cells AB
            by_cases hlt : i < K.length
            · have hltz : (i : Int) < (K.length : Int) := by omega
              obtain ⟨g, off, rfl, hW⟩ := AK.out i hlt
              obtain ⟨x0, x1, x2⟩ := hW wr TL
              have C1 := hide (CK.out i hlt)
              have N1 : Hid (stAt c K i = false → 6 = X) := hide fun h => by rw [SN2.out, all_range_false (f := fun i => stAt c K i) hlt h]; rfl
              have Y1 : Hid (stAt c K i = true → ((List.range (i + 1)).all fun i => stAt c K i) = true) := hide fun h => by rw [all_range_succ, HA.out, h]; rfl
              have HS : Hid (stAt c K i = (keyB c (K.getD i kv0).k && (!((K.getD i kv0).k.wi.length == 0 && (K.getD i kv0).k.dr == 0) && (i == 0 || keyLt (K.getD (i - 1) kv0).k.ke (K.getD i kv0).k.ke)))) := hide rfl
              generalize stAt c K i = sa at *
              generalize hv : K.getD i kv0 = v at *
              clear hv hW
              have HTn := hide (TL.alloc (.cells (kvc v) 40))
              have HBn := hide (al_old AB (.cells (kvc v) 40))
              have HVn := hide (al_new wr (.cells (kvc v) 40))
              clear AB TL HA SN2 CK
              go_wp2_with fail
              generalize wr.alloc (.cells (kvc v) 40) = w1 at *
              generalize wr.heap.size = D at *
              refine wp_region_held (S := Calm w1) (by kernel_rfl) ?_
              have hT0 : Calm w1 { w1 with drawn := w1.drawn + 1 } := (Touch.refl (fun _ => False) w1).drew
              refine wpAnyH_yield 0 43 (.pointer (some ⟨B, 0, none⟩)) rfl rfl (by kernel_rfl) (by kernel_rfl) (by kernel_rfl) (fun _ _ _ h => h) (by kernel_rfl) (fun W hW => by go_simp) (by assumption) rfl rfl ?_
              simp only [Act.put, List.setIfInBounds_toArray, List.set_cons_zero, List.set_cons_succ]
              refine wpAnyH_yield 1 44 (cfv c) rfl rfl (by kernel_rfl) (by kernel_rfl) (by kernel_rfl) (fun _ _ _ h => h) (by kernel_rfl) (fun W hW => by obtain ⟨⟨k0, k1, k2, k3, k4, k5⟩, ⟨k6, k7, k8, k9⟩, -, -⟩ := st_cells (hW.at HBn.out); go_simp) (by assumption) rfl rfl ?_
              simp only [Act.put, List.setIfInBounds_toArray, List.set_cons_zero, List.set_cons_succ]
              refine wpAnyH_yield 2 45 (.agg (kvc v)) rfl rfl (by kernel_rfl) (by kernel_rfl) (by kernel_rfl) (fun _ _ _ h => h) (by kernel_rfl) (fun W hW => by obtain ⟨k0, k1, k2⟩ := ks_cells (hW.at HVn.out); go_simp) (by assumption) rfl rfl ?_
              simp only [Act.put, List.setIfInBounds_toArray, List.set_cons_zero, List.set_cons_succ]
              refine wpAnyH_enter 3 46 17 #[cfv c, .agg (kvc v)] rfl rfl (by kernel_rfl) (by kernel_rfl) (by kernel_rfl) ?_
              refine (C1.out _ (HTn.out.tr hT0)).mono ?_
              rintro r w5 ⟨rfl, T5⟩
              have h5 := hT0.tr T5
              refine ⟨_, rfl, h5, ?_⟩
              simp only [Act.put, List.setIfInBounds_toArray, List.set_cons_zero, List.set_cons_succ]
              have H5 := hide h5
              clear T5 hT0 C1
              generalize keyB c v.k = kb at *
              cases kb with
              | false =>
                have N5 := hide (N1.out (by rw [HS.out]; rfl))
                refine wpAnyH_yield 4 47 (.bool true) rfl rfl (by kernel_rfl) (by kernel_rfl) (by kernel_rfl) (fun _ _ _ h => h) (by kernel_rfl) (fun W hW => by kernel_rfl) (by assumption) rfl rfl ?_
                simp only [Act.put, List.setIfInBounds_toArray, List.set_cons_zero, List.set_cons_succ]
                refine wpAnyH_yield 5 48 (.bool true) rfl rfl (by kernel_rfl) (by kernel_rfl) (by kernel_rfl) (fun _ _ _ h => h) (by kernel_rfl) (fun W hW => by kernel_rfl) (by assumption) rfl rfl ?_
                simp only [Act.put, List.setIfInBounds_toArray, List.set_cons_zero, List.set_cons_succ]
                refine wpAnyH_skip 6 49 rfl rfl (by kernel_rfl) (by kernel_rfl) (by kernel_rfl) (fun _ _ _ h => h) (by kernel_rfl) (by assumption) rfl rfl ?_
                simp only [Act.put, List.setIfInBounds_toArray, List.set_cons_zero, List.set_cons_succ]
                refine wpAnyH_skip 7 50 rfl rfl (by kernel_rfl) (by kernel_rfl) (by kernel_rfl) (fun _ _ _ h => h) (by kernel_rfl) (by assumption) rfl rfl ?_
                simp only [Act.put, List.setIfInBounds_toArray, List.set_cons_zero, List.set_cons_succ]
                refine wpAnyH_skip 8 51 rfl rfl (by kernel_rfl) (by kernel_rfl) (by kernel_rfl) (fun _ _ _ h => h) (by kernel_rfl) (by assumption) rfl rfl ?_
                simp only [Act.put, List.setIfInBounds_toArray, List.set_cons_zero, List.set_cons_succ]
                refine wpAnyH_skip 9 52 rfl rfl (by kernel_rfl) (by kernel_rfl) (by kernel_rfl) (fun _ _ _ h => h) (by kernel_rfl) (by assumption) rfl rfl ?_
                simp only [Act.put, List.setIfInBounds_toArray, List.set_cons_zero, List.set_cons_succ]
                refine wpAnyH_skip 10 53 rfl rfl (by kernel_rfl) (by kernel_rfl) (by kernel_rfl) (fun _ _ _ h => h) (by kernel_rfl) (by assumption) rfl rfl ?_
                simp only [Act.put, List.setIfInBounds_toArray, List.set_cons_zero, List.set_cons_succ]
                refine wpAnyH_skip 11 54 rfl rfl (by kernel_rfl) (by kernel_rfl) (by kernel_rfl) (fun _ _ _ h => h) (by kernel_rfl) (by assumption) rfl rfl ?_
                simp only [Act.put, List.setIfInBounds_toArray, List.set_cons_zero, List.set_cons_succ]
                refine wpAnyH_skip 12 55 rfl rfl (by kernel_rfl) (by kernel_rfl) (by kernel_rfl) (fun _ _ _ h => h) (by kernel_rfl) (by assumption) rfl rfl ?_
                simp only [Act.put, List.setIfInBounds_toArray, List.set_cons_zero, List.set_cons_succ]
                refine wpAnyH_skip 13 56 rfl rfl (by kernel_rfl) (by kernel_rfl) (by kernel_rfl) (fun _ _ _ h => h) (by kernel_rfl) (by assumption) rfl rfl ?_
                simp only [Act.put, List.setIfInBounds_toArray, List.set_cons_zero, List.set_cons_succ]
                refine wpAnyH_skip 14 57 rfl rfl (by kernel_rfl) (by kernel_rfl) (by kernel_rfl) (fun _ _ _ h => h) (by kernel_rfl) (by assumption) rfl rfl ?_
                simp only [Act.put, List.setIfInBounds_toArray, List.set_cons_zero, List.set_cons_succ]
                refine wpAnyH_yield 15 58 (.bool true) rfl rfl (by kernel_rfl) (by kernel_rfl) (by kernel_rfl) (fun _ _ _ h => h) (by kernel_rfl) (fun W hW => by kernel_rfl) (by assumption) rfl rfl ?_
                simp only [Act.put, List.setIfInBounds_toArray, List.set_cons_zero, List.set_cons_succ]
                refine wpAnyH_yield 16 59 (.bool true) rfl rfl (by kernel_rfl) (by kernel_rfl) (by kernel_rfl) (fun _ _ _ h => h) (by kernel_rfl) (fun W hW => by kernel_rfl) (by assumption) rfl rfl ?_
                simp only [Act.put, List.setIfInBounds_toArray, List.set_cons_zero, List.set_cons_succ]
                refine wpAnyH_skip 17 60 rfl rfl (by kernel_rfl) (by kernel_rfl) (by kernel_rfl) (fun _ _ _ h => h) (by kernel_rfl) (by assumption) rfl rfl ?_
                simp only [Act.put, List.setIfInBounds_toArray, List.set_cons_zero, List.set_cons_succ]
                refine wpAnyH_skip 18 61 rfl rfl (by kernel_rfl) (by kernel_rfl) (by kernel_rfl) (fun _ _ _ h => h) (by kernel_rfl) (by assumption) rfl rfl ?_
                simp only [Act.put, List.setIfInBounds_toArray, List.set_cons_zero, List.set_cons_succ]
                refine wpAnyH_skip 19 62 rfl rfl (by kernel_rfl) (by kernel_rfl) (by kernel_rfl) (fun _ _ _ h => h) (by kernel_rfl) (by assumption) rfl rfl ?_
                simp only [Act.put, List.setIfInBounds_toArray, List.set_cons_zero, List.set_cons_succ]
                refine wpAnyH_skip 20 63 rfl rfl (by kernel_rfl) (by kernel_rfl) (by kernel_rfl) (fun _ _ _ h => h) (by kernel_rfl) (by assumption) rfl rfl ?_
                simp only [Act.put, List.setIfInBounds_toArray, List.set_cons_zero, List.set_cons_succ]
                refine wpAnyH_skip 21 64 rfl rfl (by kernel_rfl) (by kernel_rfl) (by kernel_rfl) (fun _ _ _ h => h) (by kernel_rfl) (by assumption) rfl rfl ?_
                simp only [Act.put, List.setIfInBounds_toArray, List.set_cons_zero, List.set_cons_succ]
                refine wpAnyH_skip 22 65 rfl rfl (by kernel_rfl) (by kernel_rfl) (by kernel_rfl) (fun _ _ _ h => h) (by kernel_rfl) (by assumption) rfl rfl ?_
                simp only [Act.put, List.setIfInBounds_toArray, List.set_cons_zero, List.set_cons_succ]
                refine wpAnyH_skip 23 66 rfl rfl (by kernel_rfl) (by kernel_rfl) (by kernel_rfl) (fun _ _ _ h => h) (by kernel_rfl) (by assumption) rfl rfl ?_
                simp only [Act.put, List.setIfInBounds_toArray, List.set_cons_zero, List.set_cons_succ]
                refine wpAnyH_skip 24 67 rfl rfl (by kernel_rfl) (by kernel_rfl) (by kernel_rfl) (fun _ _ _ h => h) (by kernel_rfl) (by assumption) rfl rfl ?_
                simp only [Act.put, List.setIfInBounds_toArray, List.set_cons_zero, List.set_cons_succ]
                refine wpAnyH_skip 25 68 rfl rfl (by kernel_rfl) (by kernel_rfl) (by kernel_rfl) (fun _ _ _ h => h) (by kernel_rfl) (by assumption) rfl rfl ?_
                simp only [Act.put, List.setIfInBounds_toArray, List.set_cons_zero, List.set_cons_succ]
                refine wpAnyH_skip 26 69 rfl rfl (by kernel_rfl) (by kernel_rfl) (by kernel_rfl) (fun _ _ _ h => h) (by kernel_rfl) (by assumption) rfl rfl ?_
                simp only [Act.put, List.setIfInBounds_toArray, List.set_cons_zero, List.set_cons_succ]
                refine wpAnyH_skip 27 70 rfl rfl (by kernel_rfl) (by kernel_rfl) (by kernel_rfl) (fun _ _ _ h => h) (by kernel_rfl) (by assumption) rfl rfl ?_
                simp only [Act.put, List.setIfInBounds_toArray, List.set_cons_zero, List.set_cons_succ]
                refine wpAnyH_skip 28 71 rfl rfl (by kernel_rfl) (by kernel_rfl) (by kernel_rfl) (fun _ _ _ h => h) (by kernel_rfl) (by assumption) rfl rfl ?_
                simp only [Act.put, List.setIfInBounds_toArray, List.set_cons_zero, List.set_cons_succ]
                refine wpAnyH_skip 29 72 rfl rfl (by kernel_rfl) (by kernel_rfl) (by kernel_rfl) (fun _ _ _ h => h) (by kernel_rfl) (by assumption) rfl rfl ?_
                simp only [Act.put, List.setIfInBounds_toArray, List.set_cons_zero, List.set_cons_succ]
                refine wpAnyH_skip 30 73 rfl rfl (by kernel_rfl) (by kernel_rfl) (by kernel_rfl) (fun _ _ _ h => h) (by kernel_rfl) (by assumption) rfl rfl ?_
                simp only [Act.put, List.setIfInBounds_toArray, List.set_cons_zero, List.set_cons_succ]
                refine wpAnyH_yield 31 74 (.bool true) rfl rfl (by kernel_rfl) (by kernel_rfl) (by kernel_rfl) (fun _ _ _ h => h) (by kernel_rfl) (fun W hW => by kernel_rfl) (by assumption) rfl rfl ?_
                simp only [Act.put, List.setIfInBounds_toArray, List.set_cons_zero, List.set_cons_succ]
                refine wpAnyH_done (by kernel_rfl) ?_ _
                clear h5 HVn HBn N1 Y1 HS
                go_wp2_with fail
                go_ret
                exact ⟨by rw [← N5.out]; rfl, HTn.out.tr H5.out⟩
              | true =>
                rw [Bool.true_and] at HS
                by_cases hz : v.k.wi.length = 0
                · have hzz : (v.k.wi.length : Int) = 0 := by omega
                  have hzb : (v.k.wi.length == 0) = true := beq_iff_eq.2 hz
                  rw [hzb, Bool.true_and] at HS
                  clear hzb
                  refine wpAnyH_yield 4 47 (.bool false) rfl rfl (by kernel_rfl) (by kernel_rfl) (by kernel_rfl) (fun _ _ _ h => h) (by kernel_rfl) (fun W hW => by kernel_rfl) (by assumption) rfl rfl ?_
                  simp only [Act.put, List.setIfInBounds_toArray, List.set_cons_zero, List.set_cons_succ]
                  refine wpAnyH_yield 5 48 (.bool false) rfl rfl (by kernel_rfl) (by kernel_rfl) (by kernel_rfl) (fun _ _ _ h => h) (by kernel_rfl) (fun W hW => by kernel_rfl) (by assumption) rfl rfl ?_
                  simp only [Act.put, List.setIfInBounds_toArray, List.set_cons_zero, List.set_cons_succ]
                  refine wpAnyH_yield 6 49 (.pointer (some ⟨D, 2, none⟩)) rfl rfl (by kernel_rfl) (by kernel_rfl) (by kernel_rfl) (fun _ _ _ h => h) (by kernel_rfl) (fun W hW => by go_simp) (by assumption) rfl rfl ?_
                  simp only [Act.put, List.setIfInBounds_toArray, List.set_cons_zero, List.set_cons_succ]
                  refine wpAnyH_yield 7 50 (.slice v.wo v.k.wi.length v.cap) rfl rfl (by kernel_rfl) (by kernel_rfl) (by kernel_rfl) (fun _ _ _ h => h) (by kernel_rfl) (fun W hW => by clear hz hzz; obtain ⟨-, -, k2⟩ := ks_cells (hW.at HVn.out); go_simp) (by assumption) rfl rfl ?_
                  simp only [Act.put, List.setIfInBounds_toArray, List.set_cons_zero, List.set_cons_succ]
                  refine wpAnyH_yield 8 51 (.int .i64 (v.k.wi.length : Int)) rfl rfl (by kernel_rfl) (by kernel_rfl) (by kernel_rfl) (fun _ _ _ h => h) (by kernel_rfl) (fun W hW => by clear hz hzz; go_simp) (by assumption) rfl rfl ?_
                  simp only [Act.put, List.setIfInBounds_toArray, List.set_cons_zero, List.set_cons_succ]
                  refine wpAnyH_yield 9 52 (.bool true) rfl rfl (by kernel_rfl) (by kernel_rfl) (by kernel_rfl) (fun _ _ _ h => h) (by kernel_rfl) (fun W hW => by go_simp) (by assumption) rfl rfl ?_
                  simp only [Act.put, List.setIfInBounds_toArray, List.set_cons_zero, List.set_cons_succ]
                  refine wpAnyH_yield 10 53 (.bool true) rfl rfl (by kernel_rfl) (by kernel_rfl) (by kernel_rfl) (fun _ _ _ h => h) (by kernel_rfl) (fun W hW => by kernel_rfl) (by assumption) rfl rfl ?_
                  simp only [Act.put, List.setIfInBounds_toArray, List.set_cons_zero, List.set_cons_succ]
                  refine wpAnyH_yield 11 54 (.pointer (some ⟨D, 1, none⟩)) rfl rfl (by kernel_rfl) (by kernel_rfl) (by kernel_rfl) (fun _ _ _ h => h) (by kernel_rfl) (fun W hW => by go_simp) (by assumption) rfl rfl ?_
                  simp only [Act.put, List.setIfInBounds_toArray, List.set_cons_zero, List.set_cons_succ]
                  refine wpAnyH_yield 12 55 (.int .i64 v.k.dr) rfl rfl (by kernel_rfl) (by kernel_rfl) (by kernel_rfl) (fun _ _ _ h => h) (by kernel_rfl) (fun W hW => by obtain ⟨-, k1, -⟩ := ks_cells (hW.at HVn.out); go_simp) (by assumption) rfl rfl ?_
                  simp only [Act.put, List.setIfInBounds_toArray, List.set_cons_zero, List.set_cons_succ]
                  clear hz hzz
                  by_cases hd : v.k.dr = 0
                  · have N5 := hide (N1.out (by rw [HS.out, hd]; rfl))
                    refine wpAnyH_yield 13 56 (.bool true) rfl rfl (by kernel_rfl) (by kernel_rfl) (by kernel_rfl) (fun _ _ _ h => h) (by kernel_rfl) (fun W hW => by go_simp) (by assumption) rfl rfl ?_
                    simp only [Act.put, List.setIfInBounds_toArray, List.set_cons_zero, List.set_cons_succ]
                    refine wpAnyH_yield 14 57 (.bool true) rfl rfl (by kernel_rfl) (by kernel_rfl) (by kernel_rfl) (fun _ _ _ h => h) (by kernel_rfl) (fun W hW => by kernel_rfl) (by assumption) rfl rfl ?_
                    simp only [Act.put, List.setIfInBounds_toArray, List.set_cons_zero, List.set_cons_succ]
                    refine wpAnyH_yield 15 58 (.bool true) rfl rfl (by kernel_rfl) (by kernel_rfl) (by kernel_rfl) (fun _ _ _ h => h) (by kernel_rfl) (fun W hW => by kernel_rfl) (by assumption) rfl rfl ?_
                    simp only [Act.put, List.setIfInBounds_toArray, List.set_cons_zero, List.set_cons_succ]
                    refine wpAnyH_yield 16 59 (.bool true) rfl rfl (by kernel_rfl) (by kernel_rfl) (by kernel_rfl) (fun _ _ _ h => h) (by kernel_rfl) (fun W hW => by kernel_rfl) (by assumption) rfl rfl ?_
                    simp only [Act.put, List.setIfInBounds_toArray, List.set_cons_zero, List.set_cons_succ]
                    refine wpAnyH_skip 17 60 rfl rfl (by kernel_rfl) (by kernel_rfl) (by kernel_rfl) (fun _ _ _ h => h) (by kernel_rfl) (by assumption) rfl rfl ?_
                    simp only [Act.put, List.setIfInBounds_toArray, List.set_cons_zero, List.set_cons_succ]
                    refine wpAnyH_skip 18 61 rfl rfl (by kernel_rfl) (by kernel_rfl) (by kernel_rfl) (fun _ _ _ h => h) (by kernel_rfl) (by assumption) rfl rfl ?_
                    simp only [Act.put, List.setIfInBounds_toArray, List.set_cons_zero, List.set_cons_succ]
                    refine wpAnyH_skip 19 62 rfl rfl (by kernel_rfl) (by kernel_rfl) (by kernel_rfl) (fun _ _ _ h => h) (by kernel_rfl) (by assumption) rfl rfl ?_
                    simp only [Act.put, List.setIfInBounds_toArray, List.set_cons_zero, List.set_cons_succ]
                    refine wpAnyH_skip 20 63 rfl rfl (by kernel_rfl) (by kernel_rfl) (by kernel_rfl) (fun _ _ _ h => h) (by kernel_rfl) (by assumption) rfl rfl ?_
                    simp only [Act.put, List.setIfInBounds_toArray, List.set_cons_zero, List.set_cons_succ]
                    refine wpAnyH_skip 21 64 rfl rfl (by kernel_rfl) (by kernel_rfl) (by kernel_rfl) (fun _ _ _ h => h) (by kernel_rfl) (by assumption) rfl rfl ?_
                    simp only [Act.put, List.setIfInBounds_toArray, List.set_cons_zero, List.set_cons_succ]
                    refine wpAnyH_skip 22 65 rfl rfl (by kernel_rfl) (by kernel_rfl) (by kernel_rfl) (fun _ _ _ h => h) (by kernel_rfl) (by assumption) rfl rfl ?_
                    simp only [Act.put, List.setIfInBounds_toArray, List.set_cons_zero, List.set_cons_succ]
                    refine wpAnyH_skip 23 66 rfl rfl (by kernel_rfl) (by kernel_rfl) (by kernel_rfl) (fun _ _ _ h => h) (by kernel_rfl) (by assumption) rfl rfl ?_
                    simp only [Act.put, List.setIfInBounds_toArray, List.set_cons_zero, List.set_cons_succ]
                    refine wpAnyH_skip 24 67 rfl rfl (by kernel_rfl) (by kernel_rfl) (by kernel_rfl) (fun _ _ _ h => h) (by kernel_rfl) (by assumption) rfl rfl ?_
                    simp only [Act.put, List.setIfInBounds_toArray, List.set_cons_zero, List.set_cons_succ]
                    refine wpAnyH_skip 25 68 rfl rfl (by kernel_rfl) (by kernel_rfl) (by kernel_rfl) (fun _ _ _ h => h) (by kernel_rfl) (by assumption) rfl rfl ?_
                    simp only [Act.put, List.setIfInBounds_toArray, List.set_cons_zero, List.set_cons_succ]
                    refine wpAnyH_skip 26 69 rfl rfl (by kernel_rfl) (by kernel_rfl) (by kernel_rfl) (fun _ _ _ h => h) (by kernel_rfl) (by assumption) rfl rfl ?_
                    simp only [Act.put, List.setIfInBounds_toArray, List.set_cons_zero, List.set_cons_succ]
                    refine wpAnyH_skip 27 70 rfl rfl (by kernel_rfl) (by kernel_rfl) (by kernel_rfl) (fun _ _ _ h => h) (by kernel_rfl) (by assumption) rfl rfl ?_
                    simp only [Act.put, List.setIfInBounds_toArray, List.set_cons_zero, List.set_cons_succ]
                    refine wpAnyH_skip 28 71 rfl rfl (by kernel_rfl) (by kernel_rfl) (by kernel_rfl) (fun _ _ _ h => h) (by kernel_rfl) (by assumption) rfl rfl ?_
                    simp only [Act.put, List.setIfInBounds_toArray, List.set_cons_zero, List.set_cons_succ]
                    refine wpAnyH_skip 29 72 rfl rfl (by kernel_rfl) (by kernel_rfl) (by kernel_rfl) (fun _ _ _ h => h) (by kernel_rfl) (by assumption) rfl rfl ?_
                    simp only [Act.put, List.setIfInBounds_toArray, List.set_cons_zero, List.set_cons_succ]
                    refine wpAnyH_skip 30 73 rfl rfl (by kernel_rfl) (by kernel_rfl) (by kernel_rfl) (fun _ _ _ h => h) (by kernel_rfl) (by assumption) rfl rfl ?_
                    simp only [Act.put, List.setIfInBounds_toArray, List.set_cons_zero, List.set_cons_succ]
                    refine wpAnyH_yield 31 74 (.bool true) rfl rfl (by kernel_rfl) (by kernel_rfl) (by kernel_rfl) (fun _ _ _ h => h) (by kernel_rfl) (fun W hW => by kernel_rfl) (by assumption) rfl rfl ?_
                    simp only [Act.put, List.setIfInBounds_toArray, List.set_cons_zero, List.set_cons_succ]
                    refine wpAnyH_done (by kernel_rfl) ?_ _
                    clear h5 HVn HBn N1 Y1 HS
                    go_wp2_with fail
                    go_ret
                    exact ⟨by rw [← N5.out]; rfl, HTn.out.tr H5.out⟩
                  · have HE : Hid (sa = (i == 0 || keyLt (K.getD (i - 1) kv0).k.ke v.k.ke)) := hide (by rw [HS.out, beq_false_of_ne hd]; rfl)
                    clear HS
                    refine wpAnyH_yield 13 56 (.bool false) rfl rfl (by kernel_rfl) (by kernel_rfl) (by kernel_rfl) (fun _ _ _ h => h) (by kernel_rfl) (fun W hW => by go_simp) (by assumption) rfl rfl ?_
                    simp only [Act.put, List.setIfInBounds_toArray, List.set_cons_zero, List.set_cons_succ]
                    refine wpAnyH_yield 14 57 (.bool false) rfl rfl (by kernel_rfl) (by kernel_rfl) (by kernel_rfl) (fun _ _ _ h => h) (by kernel_rfl) (fun W hW => by kernel_rfl) (by assumption) rfl rfl ?_
                    simp only [Act.put, List.setIfInBounds_toArray, List.set_cons_zero, List.set_cons_succ]
                    refine wpAnyH_yield 15 58 (.bool false) rfl rfl (by kernel_rfl) (by kernel_rfl) (by kernel_rfl) (fun _ _ _ h => h) (by kernel_rfl) (fun W hW => by kernel_rfl) (by assumption) rfl rfl ?_
                    simp only [Act.put, List.setIfInBounds_toArray, List.set_cons_zero, List.set_cons_succ]
                    refine wpAnyH_yield 16 59 (.bool false) rfl rfl (by kernel_rfl) (by kernel_rfl) (by kernel_rfl) (fun _ _ _ h => h) (by kernel_rfl) (fun W hW => by kernel_rfl) (by assumption) rfl rfl ?_
                    simp only [Act.put, List.setIfInBounds_toArray, List.set_cons_zero, List.set_cons_succ]
                    clear hd
                    by_cases hi0 : i = 0
                    · have Hi0 := hide hi0
                      have Y5 := hide (Y1.out (by rw [HE.out, hi0]; rfl))
                      clear hi0 N1 Y1 HE
                      refine wpAnyH_yield 17 60 (.int .i64 (i : Int)) rfl rfl (by kernel_rfl) (by kernel_rfl) (by kernel_rfl) (fun _ _ _ h => h) (by kernel_rfl) (fun W hW => by kernel_rfl) (by assumption) rfl rfl ?_
                      simp only [Act.put, List.setIfInBounds_toArray, List.set_cons_zero, List.set_cons_succ]
                      refine wpAnyH_yield 18 61 (.bool false) rfl rfl (by kernel_rfl) (by kernel_rfl) (by kernel_rfl) (fun _ _ _ h => h) (by kernel_rfl) (fun W hW => by go_simp; exact Hi0.out) (by assumption) rfl rfl ?_
                      simp only [Act.put, List.setIfInBounds_toArray, List.set_cons_zero, List.set_cons_succ]
                      refine wpAnyH_yield 19 62 (.bool false) rfl rfl (by kernel_rfl) (by kernel_rfl) (by kernel_rfl) (fun _ _ _ h => h) (by kernel_rfl) (fun W hW => by kernel_rfl) (by assumption) rfl rfl ?_
                      simp only [Act.put, List.setIfInBounds_toArray, List.set_cons_zero, List.set_cons_succ]
                      refine wpAnyH_skip 20 63 rfl rfl (by kernel_rfl) (by kernel_rfl) (by kernel_rfl) (fun _ _ _ h => h) (by kernel_rfl) (by assumption) rfl rfl ?_
                      simp only [Act.put, List.setIfInBounds_toArray, List.set_cons_zero, List.set_cons_succ]
                      refine wpAnyH_skip 21 64 rfl rfl (by kernel_rfl) (by kernel_rfl) (by kernel_rfl) (fun _ _ _ h => h) (by kernel_rfl) (by assumption) rfl rfl ?_
                      simp only [Act.put, List.setIfInBounds_toArray, List.set_cons_zero, List.set_cons_succ]
                      refine wpAnyH_skip 22 65 rfl rfl (by kernel_rfl) (by kernel_rfl) (by kernel_rfl) (fun _ _ _ h => h) (by kernel_rfl) (by assumption) rfl rfl ?_
                      simp only [Act.put, List.setIfInBounds_toArray, List.set_cons_zero, List.set_cons_succ]
                      refine wpAnyH_skip 23 66 rfl rfl (by kernel_rfl) (by kernel_rfl) (by kernel_rfl) (fun _ _ _ h => h) (by kernel_rfl) (by assumption) rfl rfl ?_
                      simp only [Act.put, List.setIfInBounds_toArray, List.set_cons_zero, List.set_cons_succ]
                      refine wpAnyH_skip 24 67 rfl rfl (by kernel_rfl) (by kernel_rfl) (by kernel_rfl) (fun _ _ _ h => h) (by kernel_rfl) (by assumption) rfl rfl ?_
                      simp only [Act.put, List.setIfInBounds_toArray, List.set_cons_zero, List.set_cons_succ]
                      refine wpAnyH_skip 25 68 rfl rfl (by kernel_rfl) (by kernel_rfl) (by kernel_rfl) (fun _ _ _ h => h) (by kernel_rfl) (by assumption) rfl rfl ?_
                      simp only [Act.put, List.setIfInBounds_toArray, List.set_cons_zero, List.set_cons_succ]
                      refine wpAnyH_skip 26 69 rfl rfl (by kernel_rfl) (by kernel_rfl) (by kernel_rfl) (fun _ _ _ h => h) (by kernel_rfl) (by assumption) rfl rfl ?_
                      simp only [Act.put, List.setIfInBounds_toArray, List.set_cons_zero, List.set_cons_succ]
                      refine wpAnyH_skip 27 70 rfl rfl (by kernel_rfl) (by kernel_rfl) (by kernel_rfl) (fun _ _ _ h => h) (by kernel_rfl) (by assumption) rfl rfl ?_
                      simp only [Act.put, List.setIfInBounds_toArray, List.set_cons_zero, List.set_cons_succ]
                      refine wpAnyH_skip 28 71 rfl rfl (by kernel_rfl) (by kernel_rfl) (by kernel_rfl) (fun _ _ _ h => h) (by kernel_rfl) (by assumption) rfl rfl ?_
                      simp only [Act.put, List.setIfInBounds_toArray, List.set_cons_zero, List.set_cons_succ]
                      refine wpAnyH_skip 29 72 rfl rfl (by kernel_rfl) (by kernel_rfl) (by kernel_rfl) (fun _ _ _ h => h) (by kernel_rfl) (by assumption) rfl rfl ?_
                      simp only [Act.put, List.setIfInBounds_toArray, List.set_cons_zero, List.set_cons_succ]
                      refine wpAnyH_yield 30 73 (.bool false) rfl rfl (by kernel_rfl) (by kernel_rfl) (by kernel_rfl) (fun _ _ _ h => h) (by kernel_rfl) (fun W hW => by kernel_rfl) (by assumption) rfl rfl ?_
                      simp only [Act.put, List.setIfInBounds_toArray, List.set_cons_zero, List.set_cons_succ]
                      refine wpAnyH_yield 31 74 (.bool false) rfl rfl (by kernel_rfl) (by kernel_rfl) (by kernel_rfl) (fun _ _ _ h => h) (by kernel_rfl) (fun W hW => by kernel_rfl) (by assumption) rfl rfl ?_
                      simp only [Act.put, List.setIfInBounds_toArray, List.set_cons_zero, List.set_cons_succ]
                      refine wpAnyH_done (by kernel_rfl) ?_ _
                      have B5 := hide (H5.out.at HBn.out)
                      clear h5 HVn
                      go_wp2_with fail
                      go_roundw
                      case rel => exact ⟨i + 1, by go_num, by omega, Y5.out, B5.out, HTn.out.tr H5.out⟩
                      case measure => simp [intOf]; omega
                    · obtain ⟨q, hq⟩ : ∃ q, q = i - 1 := ⟨_, rfl⟩
                      have hq1 : IntKind.i64.wrap ((i : Int) - 1) = (q : Int) := by rw [IntKind.wrap_i64]; omega
                      have hqn : (q : Int) < (K.length : Int) := by omega
                      rw [← hq, beq_false_of_ne hi0, Bool.false_or] at HE
                      have KP : Hid (∀ W, Calm w W → W.cell? ⟨g, off + q * 3, none⟩ = some (.string (K.getD q kv0).k.ke)) := hide fun W hW => by
                        obtain ⟨g', off', e, h⟩ := AK.out q (by omega)
                        injection e with e
                        injection e with e1 e2
                        subst e1 e2
                        exact (h W hW).1
                      generalize (K.getD q kv0).k.ke = pk at *
                      have GS := geq_str 9 pk v.k.ke
                      have Hi0 := hide hi0
                      clear hi0 hq
                      generalize keyLt pk v.k.ke = lt at *
                      refine wpAnyH_yield 17 60 (.int .i64 (i : Int)) rfl rfl (by kernel_rfl) (by kernel_rfl) (by kernel_rfl) (fun _ _ _ h => h) (by kernel_rfl) (fun W hW => by kernel_rfl) (by assumption) rfl rfl ?_
                      simp only [Act.put, List.setIfInBounds_toArray, List.set_cons_zero, List.set_cons_succ]
                      refine wpAnyH_yield 18 61 (.bool true) rfl rfl (by kernel_rfl) (by kernel_rfl) (by kernel_rfl) (fun _ _ _ h => h) (by kernel_rfl) (fun W hW => by go_simp; have := Hi0.out; omega) (by assumption) rfl rfl ?_
                      simp only [Act.put, List.setIfInBounds_toArray, List.set_cons_zero, List.set_cons_succ]
                      refine wpAnyH_yield 19 62 (.bool true) rfl rfl (by kernel_rfl) (by kernel_rfl) (by kernel_rfl) (fun _ _ _ h => h) (by kernel_rfl) (fun W hW => by kernel_rfl) (by assumption) rfl rfl ?_
                      simp only [Act.put, List.setIfInBounds_toArray, List.set_cons_zero, List.set_cons_succ]
                      refine wpAnyH_yield 20 63 (.pointer (some ⟨B, 11, none⟩)) rfl rfl (by kernel_rfl) (by kernel_rfl) (by kernel_rfl) (fun _ _ _ h => h) (by kernel_rfl) (fun W hW => by go_simp) (by assumption) rfl rfl ?_
                      simp only [Act.put, List.setIfInBounds_toArray, List.set_cons_zero, List.set_cons_succ]
                      refine wpAnyH_yield 21 64 (.slice (some ⟨g, off, none⟩) K.length kc) rfl rfl (by kernel_rfl) (by kernel_rfl) (by kernel_rfl) (fun _ _ _ h => h) (by kernel_rfl) (fun W hW => by obtain ⟨-, -, -, c11⟩ := st_cells (hW.at HBn.out); go_simp) (by assumption) rfl rfl ?_
                      simp only [Act.put, List.setIfInBounds_toArray, List.set_cons_zero, List.set_cons_succ]
                      refine wpAnyH_yield 22 65 (.int .i64 (i : Int)) rfl rfl (by kernel_rfl) (by kernel_rfl) (by kernel_rfl) (fun _ _ _ h => h) (by kernel_rfl) (fun W hW => by kernel_rfl) (by assumption) rfl rfl ?_
                      simp only [Act.put, List.setIfInBounds_toArray, List.set_cons_zero, List.set_cons_succ]
                      refine wpAnyH_yield 23 66 (.int .i64 (q : Int)) rfl rfl (by kernel_rfl) (by kernel_rfl) (by kernel_rfl) (fun _ _ _ h => h) (by kernel_rfl) (fun W hW => by go_simp) (by assumption) rfl rfl ?_
                      simp only [Act.put, List.setIfInBounds_toArray, List.set_cons_zero, List.set_cons_succ]
                      refine wpAnyH_yield 24 67 (.pointer (some ⟨g, off + q * 3, none⟩)) rfl rfl (by kernel_rfl) (by kernel_rfl) (by kernel_rfl) (fun _ _ _ h => h) (by kernel_rfl) (fun W hW => by go_simp) (by assumption) rfl rfl ?_
                      simp only [Act.put, List.setIfInBounds_toArray, List.set_cons_zero, List.set_cons_succ]
                      refine wpAnyH_yield 25 68 (.pointer (some ⟨g, off + q * 3, none⟩)) rfl rfl (by kernel_rfl) (by kernel_rfl) (by kernel_rfl) (fun _ _ _ h => h) (by kernel_rfl) (fun W hW => by go_simp) (by assumption) rfl rfl ?_
                      simp only [Act.put, List.setIfInBounds_toArray, List.set_cons_zero, List.set_cons_succ]
                      refine wpAnyH_yield 26 69 (.string pk) rfl rfl (by kernel_rfl) (by kernel_rfl) (by kernel_rfl) (fun _ _ _ h => h) (by kernel_rfl) (fun W hW => by have c0 := KP.out W (HTn.out.tr hW); go_simp) (by assumption) rfl rfl ?_
                      simp only [Act.put, List.setIfInBounds_toArray, List.set_cons_zero, List.set_cons_succ]
                      refine wpAnyH_yield 27 70 (.pointer (some ⟨D, 0, none⟩)) rfl rfl (by kernel_rfl) (by kernel_rfl) (by kernel_rfl) (fun _ _ _ h => h) (by kernel_rfl) (fun W hW => by go_simp) (by assumption) rfl rfl ?_
                      simp only [Act.put, List.setIfInBounds_toArray, List.set_cons_zero, List.set_cons_succ]
                      refine wpAnyH_yield 28 71 (.string v.k.ke) rfl rfl (by kernel_rfl) (by kernel_rfl) (by kernel_rfl) (fun _ _ _ h => h) (by kernel_rfl) (fun W hW => by obtain ⟨c0, -⟩ := ks_cells (hW.at HVn.out); go_simp) (by assumption) rfl rfl ?_
                      simp only [Act.put, List.setIfInBounds_toArray, List.set_cons_zero, List.set_cons_succ]
                      refine wpAnyH_yield 29 72 (.bool (!lt)) rfl rfl (by kernel_rfl) (by kernel_rfl) (by kernel_rfl) (fun _ _ _ h => h) (by kernel_rfl) (fun W hW => by go_simp) (by assumption) rfl rfl ?_
                      simp only [Act.put, List.setIfInBounds_toArray, List.set_cons_zero, List.set_cons_succ]
                      refine wpAnyH_yield 30 73 (.bool (!lt)) rfl rfl (by kernel_rfl) (by kernel_rfl) (by kernel_rfl) (fun _ _ _ h => h) (by kernel_rfl) (fun W hW => by kernel_rfl) (by assumption) rfl rfl ?_
                      simp only [Act.put, List.setIfInBounds_toArray, List.set_cons_zero, List.set_cons_succ]
                      refine wpAnyH_yield 31 74 (.bool (!lt)) rfl rfl (by kernel_rfl) (by kernel_rfl) (by kernel_rfl) (fun _ _ _ h => h) (by kernel_rfl) (fun W hW => by kernel_rfl) (by assumption) rfl rfl ?_
                      simp only [Act.put, List.setIfInBounds_toArray, List.set_cons_zero, List.set_cons_succ]
                      cases lt with
                      | false =>
                        have N5 := hide (N1.out HE.out)
                        refine wpAnyH_done (by kernel_rfl) ?_ _
                        clear h5 HVn HBn GS KP hq1 hqn N1 Y1 HE
                        go_wp2_with fail
                        go_ret
                        exact ⟨by rw [← N5.out]; rfl, HTn.out.tr H5.out⟩
                      | true =>
                        have Y5 := hide (Y1.out HE.out)
                        refine wpAnyH_done (by kernel_rfl) ?_ _
                        have B5 := hide (H5.out.at HBn.out)
                        clear h5 HVn GS KP hq1 hqn N1 Y1 HE
                        go_wp2_with fail
                        go_roundw
                        case rel => exact ⟨i + 1, by go_num, by omega, Y5.out, B5.out, HTn.out.tr H5.out⟩
                        case measure => simp [intOf]; omega
                · have hzz : ¬ (v.k.wi.length : Int) = 0 := by omega
                  have HE : Hid (sa = (i == 0 || keyLt (K.getD (i - 1) kv0).k.ke v.k.ke)) := hide (by rw [HS.out, beq_false_of_ne hz]; rfl)
                  clear HS
                  refine wpAnyH_yield 4 47 (.bool false) rfl rfl (by kernel_rfl) (by kernel_rfl) (by kernel_rfl) (fun _ _ _ h => h) (by kernel_rfl) (fun W hW => by kernel_rfl) (by assumption) rfl rfl ?_
                  simp only [Act.put, List.setIfInBounds_toArray, List.set_cons_zero, List.set_cons_succ]
                  refine wpAnyH_yield 5 48 (.bool false) rfl rfl (by kernel_rfl) (by kernel_rfl) (by kernel_rfl) (fun _ _ _ h => h) (by kernel_rfl) (fun W hW => by kernel_rfl) (by assumption) rfl rfl ?_
                  simp only [Act.put, List.setIfInBounds_toArray, List.set_cons_zero, List.set_cons_succ]
                  refine wpAnyH_yield 6 49 (.pointer (some ⟨D, 2, none⟩)) rfl rfl (by kernel_rfl) (by kernel_rfl) (by kernel_rfl) (fun _ _ _ h => h) (by kernel_rfl) (fun W hW => by go_simp) (by assumption) rfl rfl ?_
                  simp only [Act.put, List.setIfInBounds_toArray, List.set_cons_zero, List.set_cons_succ]
                  refine wpAnyH_yield 7 50 (.slice v.wo v.k.wi.length v.cap) rfl rfl (by kernel_rfl) (by kernel_rfl) (by kernel_rfl) (fun _ _ _ h => h) (by kernel_rfl) (fun W hW => by clear hz hzz; obtain ⟨-, -, k2⟩ := ks_cells (hW.at HVn.out); go_simp) (by assumption) rfl rfl ?_
                  simp only [Act.put, List.setIfInBounds_toArray, List.set_cons_zero, List.set_cons_succ]
                  refine wpAnyH_yield 8 51 (.int .i64 (v.k.wi.length : Int)) rfl rfl (by kernel_rfl) (by kernel_rfl) (by kernel_rfl) (fun _ _ _ h => h) (by kernel_rfl) (fun W hW => by clear hz hzz; go_simp) (by assumption) rfl rfl ?_
                  simp only [Act.put, List.setIfInBounds_toArray, List.set_cons_zero, List.set_cons_succ]
                  refine wpAnyH_yield 9 52 (.bool false) rfl rfl (by kernel_rfl) (by kernel_rfl) (by kernel_rfl) (fun _ _ _ h => h) (by kernel_rfl) (fun W hW => by go_simp) (by assumption) rfl rfl ?_
                  simp only [Act.put, List.setIfInBounds_toArray, List.set_cons_zero, List.set_cons_succ]
                  refine wpAnyH_yield 10 53 (.bool false) rfl rfl (by kernel_rfl) (by kernel_rfl) (by kernel_rfl) (fun _ _ _ h => h) (by kernel_rfl) (fun W hW => by kernel_rfl) (by assumption) rfl rfl ?_
                  simp only [Act.put, List.setIfInBounds_toArray, List.set_cons_zero, List.set_cons_succ]
                  refine wpAnyH_skip 11 54 rfl rfl (by kernel_rfl) (by kernel_rfl) (by kernel_rfl) (fun _ _ _ h => h) (by kernel_rfl) (by assumption) rfl rfl ?_
                  simp only [Act.put, List.setIfInBounds_toArray, List.set_cons_zero, List.set_cons_succ]
                  refine wpAnyH_skip 12 55 rfl rfl (by kernel_rfl) (by kernel_rfl) (by kernel_rfl) (fun _ _ _ h => h) (by kernel_rfl) (by assumption) rfl rfl ?_
                  simp only [Act.put, List.setIfInBounds_toArray, List.set_cons_zero, List.set_cons_succ]
                  refine wpAnyH_skip 13 56 rfl rfl (by kernel_rfl) (by kernel_rfl) (by kernel_rfl) (fun _ _ _ h => h) (by kernel_rfl) (by assumption) rfl rfl ?_
                  simp only [Act.put, List.setIfInBounds_toArray, List.set_cons_zero, List.set_cons_succ]
                  refine wpAnyH_yield 14 57 (.bool false) rfl rfl (by kernel_rfl) (by kernel_rfl) (by kernel_rfl) (fun _ _ _ h => h) (by kernel_rfl) (fun W hW => by kernel_rfl) (by assumption) rfl rfl ?_
                  simp only [Act.put, List.setIfInBounds_toArray, List.set_cons_zero, List.set_cons_succ]
                  refine wpAnyH_yield 15 58 (.bool false) rfl rfl (by kernel_rfl) (by kernel_rfl) (by kernel_rfl) (fun _ _ _ h => h) (by kernel_rfl) (fun W hW => by kernel_rfl) (by assumption) rfl rfl ?_
                  simp only [Act.put, List.setIfInBounds_toArray, List.set_cons_zero, List.set_cons_succ]
                  refine wpAnyH_yield 16 59 (.bool false) rfl rfl (by kernel_rfl) (by kernel_rfl) (by kernel_rfl) (fun _ _ _ h => h) (by kernel_rfl) (fun W hW => by kernel_rfl) (by assumption) rfl rfl ?_
                  simp only [Act.put, List.setIfInBounds_toArray, List.set_cons_zero, List.set_cons_succ]
                  clear hz hzz
                  by_cases hi0 : i = 0
                  · have Hi0 := hide hi0
                    have Y5 := hide (Y1.out (by rw [HE.out, hi0]; rfl))
                    clear hi0 N1 Y1 HE
                    refine wpAnyH_yield 17 60 (.int .i64 (i : Int)) rfl rfl (by kernel_rfl) (by kernel_rfl) (by kernel_rfl) (fun _ _ _ h => h) (by kernel_rfl) (fun W hW => by kernel_rfl) (by assumption) rfl rfl ?_
                    simp only [Act.put, List.setIfInBounds_toArray, List.set_cons_zero, List.set_cons_succ]
                    refine wpAnyH_yield 18 61 (.bool false) rfl rfl (by kernel_rfl) (by kernel_rfl) (by kernel_rfl) (fun _ _ _ h => h) (by kernel_rfl) (fun W hW => by go_simp; exact Hi0.out) (by assumption) rfl rfl ?_
                    simp only [Act.put, List.setIfInBounds_toArray, List.set_cons_zero, List.set_cons_succ]
                    refine wpAnyH_yield 19 62 (.bool false) rfl rfl (by kernel_rfl) (by kernel_rfl) (by kernel_rfl) (fun _ _ _ h => h) (by kernel_rfl) (fun W hW => by kernel_rfl) (by assumption) rfl rfl ?_
                    simp only [Act.put, List.setIfInBounds_toArray, List.set_cons_zero, List.set_cons_succ]
                    refine wpAnyH_skip 20 63 rfl rfl (by kernel_rfl) (by kernel_rfl) (by kernel_rfl) (fun _ _ _ h => h) (by kernel_rfl) (by assumption) rfl rfl ?_
                    simp only [Act.put, List.setIfInBounds_toArray, List.set_cons_zero, List.set_cons_succ]
                    refine wpAnyH_skip 21 64 rfl rfl (by kernel_rfl) (by kernel_rfl) (by kernel_rfl) (fun _ _ _ h => h) (by kernel_rfl) (by assumption) rfl rfl ?_
                    simp only [Act.put, List.setIfInBounds_toArray, List.set_cons_zero, List.set_cons_succ]
                    refine wpAnyH_skip 22 65 rfl rfl (by kernel_rfl) (by kernel_rfl) (by kernel_rfl) (fun _ _ _ h => h) (by kernel_rfl) (by assumption) rfl rfl ?_
                    simp only [Act.put, List.setIfInBounds_toArray, List.set_cons_zero, List.set_cons_succ]
                    refine wpAnyH_skip 23 66 rfl rfl (by kernel_rfl) (by kernel_rfl) (by kernel_rfl) (fun _ _ _ h => h) (by kernel_rfl) (by assumption) rfl rfl ?_
                    simp only [Act.put, List.setIfInBounds_toArray, List.set_cons_zero, List.set_cons_succ]
                    refine wpAnyH_skip 24 67 rfl rfl (by kernel_rfl) (by kernel_rfl) (by kernel_rfl) (fun _ _ _ h => h) (by kernel_rfl) (by assumption) rfl rfl ?_
                    simp only [Act.put, List.setIfInBounds_toArray, List.set_cons_zero, List.set_cons_succ]
                    refine wpAnyH_skip 25 68 rfl rfl (by kernel_rfl) (by kernel_rfl) (by kernel_rfl) (fun _ _ _ h => h) (by kernel_rfl) (by assumption) rfl rfl ?_
                    simp only [Act.put, List.setIfInBounds_toArray, List.set_cons_zero, List.set_cons_succ]
                    refine wpAnyH_skip 26 69 rfl rfl (by kernel_rfl) (by kernel_rfl) (by kernel_rfl) (fun _ _ _ h => h) (by kernel_rfl) (by assumption) rfl rfl ?_
                    simp only [Act.put, List.setIfInBounds_toArray, List.set_cons_zero, List.set_cons_succ]
                    refine wpAnyH_skip 27 70 rfl rfl (by kernel_rfl) (by kernel_rfl) (by kernel_rfl) (fun _ _ _ h => h) (by kernel_rfl) (by assumption) rfl rfl ?_
                    simp only [Act.put, List.setIfInBounds_toArray, List.set_cons_zero, List.set_cons_succ]
                    refine wpAnyH_skip 28 71 rfl rfl (by kernel_rfl) (by kernel_rfl) (by kernel_rfl) (fun _ _ _ h => h) (by kernel_rfl) (by assumption) rfl rfl ?_
                    simp only [Act.put, List.setIfInBounds_toArray, List.set_cons_zero, List.set_cons_succ]
                    refine wpAnyH_skip 29 72 rfl rfl (by kernel_rfl) (by kernel_rfl) (by kernel_rfl) (fun _ _ _ h => h) (by kernel_rfl) (by assumption) rfl rfl ?_
                    simp only [Act.put, List.setIfInBounds_toArray, List.set_cons_zero, List.set_cons_succ]
                    refine wpAnyH_yield 30 73 (.bool false) rfl rfl (by kernel_rfl) (by kernel_rfl) (by kernel_rfl) (fun _ _ _ h => h) (by kernel_rfl) (fun W hW => by kernel_rfl) (by assumption) rfl rfl ?_
                    simp only [Act.put, List.setIfInBounds_toArray, List.set_cons_zero, List.set_cons_succ]
                    refine wpAnyH_yield 31 74 (.bool false) rfl rfl (by kernel_rfl) (by kernel_rfl) (by kernel_rfl) (fun _ _ _ h => h) (by kernel_rfl) (fun W hW => by kernel_rfl) (by assumption) rfl rfl ?_
                    simp only [Act.put, List.setIfInBounds_toArray, List.set_cons_zero, List.set_cons_succ]
                    refine wpAnyH_done (by kernel_rfl) ?_ _
                    have B5 := hide (H5.out.at HBn.out)
                    clear h5 HVn
                    go_wp2_with fail
                    go_roundw
                    case rel => exact ⟨i + 1, by go_num, by omega, Y5.out, B5.out, HTn.out.tr H5.out⟩
                    case measure => simp [intOf]; omega
                  · obtain ⟨q, hq⟩ : ∃ q, q = i - 1 := ⟨_, rfl⟩
                    have hq1 : IntKind.i64.wrap ((i : Int) - 1) = (q : Int) := by rw [IntKind.wrap_i64]; omega
                    have hqn : (q : Int) < (K.length : Int) := by omega
                    rw [← hq, beq_false_of_ne hi0, Bool.false_or] at HE
                    have KP : Hid (∀ W, Calm w W → W.cell? ⟨g, off + q * 3, none⟩ = some (.string (K.getD q kv0).k.ke)) := hide fun W hW => by
                      obtain ⟨g', off', e, h⟩ := AK.out q (by omega)
                      injection e with e
                      injection e with e1 e2
                      subst e1 e2
                      exact (h W hW).1
                    generalize (K.getD q kv0).k.ke = pk at *
                    have GS := geq_str 9 pk v.k.ke
                    have Hi0 := hide hi0
                    clear hi0 hq
                    generalize keyLt pk v.k.ke = lt at *
                    refine wpAnyH_yield 17 60 (.int .i64 (i : Int)) rfl rfl (by kernel_rfl) (by kernel_rfl) (by kernel_rfl) (fun _ _ _ h => h) (by kernel_rfl) (fun W hW => by kernel_rfl) (by assumption) rfl rfl ?_
                    simp only [Act.put, List.setIfInBounds_toArray, List.set_cons_zero, List.set_cons_succ]
                    refine wpAnyH_yield 18 61 (.bool true) rfl rfl (by kernel_rfl) (by kernel_rfl) (by kernel_rfl) (fun _ _ _ h => h) (by kernel_rfl) (fun W hW => by go_simp; have := Hi0.out; omega) (by assumption) rfl rfl ?_
                    simp only [Act.put, List.setIfInBounds_toArray, List.set_cons_zero, List.set_cons_succ]
                    refine wpAnyH_yield 19 62 (.bool true) rfl rfl (by kernel_rfl) (by kernel_rfl) (by kernel_rfl) (fun _ _ _ h => h) (by kernel_rfl) (fun W hW => by kernel_rfl) (by assumption) rfl rfl ?_
                    simp only [Act.put, List.setIfInBounds_toArray, List.set_cons_zero, List.set_cons_succ]
                    refine wpAnyH_yield 20 63 (.pointer (some ⟨B, 11, none⟩)) rfl rfl (by kernel_rfl) (by kernel_rfl) (by kernel_rfl) (fun _ _ _ h => h) (by kernel_rfl) (fun W hW => by go_simp) (by assumption) rfl rfl ?_
                    simp only [Act.put, List.setIfInBounds_toArray, List.set_cons_zero, List.set_cons_succ]
                    refine wpAnyH_yield 21 64 (.slice (some ⟨g, off, none⟩) K.length kc) rfl rfl (by kernel_rfl) (by kernel_rfl) (by kernel_rfl) (fun _ _ _ h => h) (by kernel_rfl) (fun W hW => by obtain ⟨-, -, -, c11⟩ := st_cells (hW.at HBn.out); go_simp) (by assumption) rfl rfl ?_
                    simp only [Act.put, List.setIfInBounds_toArray, List.set_cons_zero, List.set_cons_succ]
                    refine wpAnyH_yield 22 65 (.int .i64 (i : Int)) rfl rfl (by kernel_rfl) (by kernel_rfl) (by kernel_rfl) (fun _ _ _ h => h) (by kernel_rfl) (fun W hW => by kernel_rfl) (by assumption) rfl rfl ?_
                    simp only [Act.put, List.setIfInBounds_toArray, List.set_cons_zero, List.set_cons_succ]
                    refine wpAnyH_yield 23 66 (.int .i64 (q : Int)) rfl rfl (by kernel_rfl) (by kernel_rfl) (by kernel_rfl) (fun _ _ _ h => h) (by kernel_rfl) (fun W hW => by go_simp) (by assumption) rfl rfl ?_
                    simp only [Act.put, List.setIfInBounds_toArray, List.set_cons_zero, List.set_cons_succ]
                    refine wpAnyH_yield 24 67 (.pointer (some ⟨g, off + q * 3, none⟩)) rfl rfl (by kernel_rfl) (by kernel_rfl) (by kernel_rfl) (fun _ _ _ h => h) (by kernel_rfl) (fun W hW => by go_simp) (by assumption) rfl rfl ?_
                    simp only [Act.put, List.setIfInBounds_toArray, List.set_cons_zero, List.set_cons_succ]
                    refine wpAnyH_yield 25 68 (.pointer (some ⟨g, off + q * 3, none⟩)) rfl rfl (by kernel_rfl) (by kernel_rfl) (by kernel_rfl) (fun _ _ _ h => h) (by kernel_rfl) (fun W hW => by go_simp) (by assumption) rfl rfl ?_
                    simp only [Act.put, List.setIfInBounds_toArray, List.set_cons_zero, List.set_cons_succ]
                    refine wpAnyH_yield 26 69 (.string pk) rfl rfl (by kernel_rfl) (by kernel_rfl) (by kernel_rfl) (fun _ _ _ h => h) (by kernel_rfl) (fun W hW => by have c0 := KP.out W (HTn.out.tr hW); go_simp) (by assumption) rfl rfl ?_
                    simp only [Act.put, List.setIfInBounds_toArray, List.set_cons_zero, List.set_cons_succ]
                    refine wpAnyH_yield 27 70 (.pointer (some ⟨D, 0, none⟩)) rfl rfl (by kernel_rfl) (by kernel_rfl) (by kernel_rfl) (fun _ _ _ h => h) (by kernel_rfl) (fun W hW => by go_simp) (by assumption) rfl rfl ?_
                    simp only [Act.put, List.setIfInBounds_toArray, List.set_cons_zero, List.set_cons_succ]
                    refine wpAnyH_yield 28 71 (.string v.k.ke) rfl rfl (by kernel_rfl) (by kernel_rfl) (by kernel_rfl) (fun _ _ _ h => h) (by kernel_rfl) (fun W hW => by obtain ⟨c0, -⟩ := ks_cells (hW.at HVn.out); go_simp) (by assumption) rfl rfl ?_
                    simp only [Act.put, List.setIfInBounds_toArray, List.set_cons_zero, List.set_cons_succ]
                    refine wpAnyH_yield 29 72 (.bool (!lt)) rfl rfl (by kernel_rfl) (by kernel_rfl) (by kernel_rfl) (fun _ _ _ h => h) (by kernel_rfl) (fun W hW => by go_simp) (by assumption) rfl rfl ?_
                    simp only [Act.put, List.setIfInBounds_toArray, List.set_cons_zero, List.set_cons_succ]
                    refine wpAnyH_yield 30 73 (.bool (!lt)) rfl rfl (by kernel_rfl) (by kernel_rfl) (by kernel_rfl) (fun _ _ _ h => h) (by kernel_rfl) (fun W hW => by kernel_rfl) (by assumption) rfl rfl ?_
                    simp only [Act.put, List.setIfInBounds_toArray, List.set_cons_zero, List.set_cons_succ]
                    refine wpAnyH_yield 31 74 (.bool (!lt)) rfl rfl (by kernel_rfl) (by kernel_rfl) (by kernel_rfl) (fun _ _ _ h => h) (by kernel_rfl) (fun W hW => by kernel_rfl) (by assumption) rfl rfl ?_
                    simp only [Act.put, List.setIfInBounds_toArray, List.set_cons_zero, List.set_cons_succ]
                    cases lt with
                    | false =>
                      have N5 := hide (N1.out HE.out)
                      refine wpAnyH_done (by kernel_rfl) ?_ _
                      clear h5 HVn HBn GS KP hq1 hqn N1 Y1 HE
                      go_wp2_with fail
                      go_ret
                      exact ⟨by rw [← N5.out]; rfl, HTn.out.tr H5.out⟩
                    | true =>
                      have Y5 := hide (Y1.out HE.out)
                      refine wpAnyH_done (by kernel_rfl) ?_ _
                      have B5 := hide (H5.out.at HBn.out)
                      clear h5 HVn GS KP hq1 hqn N1 Y1 HE
                      go_wp2_with fail
                      go_roundw
                      case rel => exact ⟨i + 1, by go_num, by omega, Y5.out, B5.out, HTn.out.tr H5.out⟩
                      case measure => simp [intOf]; omega
            · have hltz : ¬ (i : Int) < (K.length : Int) := by omega
              obtain rfl : i = K.length := by omega
              have HF : Hid (X = 0) := hide (by rw [SN2.out, HA.out]; rfl)
              have HT := hide TL
              clear HA AB TL SN2 CK AK
              go_wp2_with fail
              go_ret
              exact ⟨by rw [HF.out]; rfl, HT.out⟩
    · have HF : Hid (X = 6) := hide (by rw [SN.out, if_neg hs])
      clear SN CT CK AM AK hw0
      go_enter Tryd.func7, Tryd.ntmps7
      go_wp2_with fail
      refine (CW _).out.mono ?_
      rintro e w1 ⟨rfl, T1⟩
      have HT := hide (T0.out.tr T1)
      obtain ⟨⟨-, c1, -⟩, -, c10, -⟩ := st_cells (T1.at A0.out)
      clear CW T0 A0 T1
      go_wp2_with fail
      go_ret
      exact ⟨by rw [HF.out]; rfl, HT.out⟩
  · have HF : Hid (stateN c M K = 4) := hide (if_neg hw0)
    generalize wrongN c = N9 at *
    have hNz : ¬ (N9 : Int) = 0 := by omega
    generalize stateN c M K = X at *
    clear CT CK AM AK
    go_enter Tryd.func7, Tryd.ntmps7
    go_wp2_with fail
    refine (CW _).out.mono ?_
    rintro e w1 ⟨rfl, T1⟩
    have HT := hide (T0.out.tr T1)
    clear CW T0 A0 T1
    go_wp2_with fail
    go_ret
    exact ⟨by rw [HF.out]; rfl, HT.out⟩

end Go.Proofs.YtdcpmpbfnfjncaaDoor
