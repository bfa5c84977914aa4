/- The program's clock: Of, New. -/
import Derived.Test.YtcmigkemhoecfaaJR
import Derived.Test.YtcmigkemhoecfaaJSm
import Derived.Laws.CopyRow
import Derived.Laws.MakeOwn
namespace Go.Proofs.Ytcmigkemhoecfaa
open Go.RowKit

/-- A drawn region with an operation that changes the world and yields a value, and operations behind it. -/
theorem wpAnyZ_valueH {P : Program} {md : Region.Mode} {ops : Array Oper} {Q : Exit → Act → World → Prop} {S : World → Prop} (S2 : World → World → Prop) {z : Nat} {d : Tmp} {v : Value} {oi : Oper} {fuel : Nat} {listed : Array Bool} {a : Act} {w w' : World} (hi : ops[z]? = some oi) (hd : oi.dst = some d)
    (hr : Region.ready md ops listed = [z]) (hw : Region.wanted oi (yielded ops a.tmps) = true) (hrun : (execOp a.eval oi).run P w = .ok (.value v) w')
    (hc : wpAnyH P md ops Q (S2 w') fuel (listed.setIfInBounds z true) (a.put (some d) v) w') : wpAnyZ P md ops Q S z (fuel + 1) listed a w := by
  refine ⟨fun h0 => (by rw [hr] at h0; cases h0), fun j hj => ?_⟩
  rw [hr] at hj
  obtain rfl : j = z := by simpa using hj
  unfold wpOp
  simp only [hi, hw, if_true]
  left
  unfold Oper.wp
  rw [hrun, Oper.upon_value, hd]
  exact wpAny_of_held _ _ _ _ hc

set_option maxRecDepth 100000 in
set_option maxHeartbeats 1000000 in
theorem idxf_any (M : List Int) (mo : Option Addr) (mc : Nat) (w : World) (hm : encJ.Mem w mo M) (hl : M.length ≤ 1000) : Calls Try.prog 55 #[.slice mo M.length mc, .func (.func 33) #[] #[]] w fun e w' => (∃ k : Int, e = .returned (.int .i64 k) ∧ ((0 ≤ k ∧ ((List.range M.length).all fun i => timC (M.getD i 0)) = false) ∨ (k = -1 ∧ ((List.range M.length).all fun i => timC (M.getD i 0)) = true))) ∧ w' = w := by
  have CT := hide (fun t => isTime_any t w)
  obtain ⟨x, hx⟩ : ∃ x : Nat → Int, ∀ i, x i = M.getD i 0 := ⟨fun i => M.getD i 0, fun _ => rfl⟩
  have AM : Hid (∀ j, j < M.length → ∃ g off, mo = some ⟨g, off, none⟩ ∧ w.cell? ⟨g, off + j, none⟩ = some (.int .i64 (x j))) := hide fun j hj => by
    obtain ⟨g, off, e, c⟩ := ints_W hm j hj
    exact ⟨g, off, e, by rw [hx]; exact c w (Touch.refl _ _)⟩
  have HO : Hid (((List.range M.length).all fun i => timC (M.getD i 0)) = (List.range M.length).all fun i => timC (x i)) := hide (by rw [show (fun i => timC (x i)) = fun i => timC (M.getD i 0) from funext fun i => by rw [hx]])
  clear hm hx
  generalize ((List.range M.length).all fun i => timC (M.getD i 0)) = R at *
  generalize hn : M.length = n at *
  go_enter Try.func55, Try.ntmps55
  go_wp2_with fail
  go_loopw [8] (fun s8 wr => ∃ i : Nat, s8 = .int .i64 (i : Int) ∧ i ≤ n ∧ Hid (((List.range i).all fun i => timC (x i)) = true) ∧ wr = w) (fun s8 _ => n - (intOf s8).toNat)
  case atStart => exact ⟨0, rfl, by omega, hide rfl, rfl⟩
  case round =>
    obtain ⟨i, rfl, hi, HA, rfl⟩ := hrel
    by_cases hlt : i < n
    · have hltz : (i : Int) < (n : Int) := by omega
      obtain ⟨g, off, rfl, cm⟩ := AM.out i hlt
      have C1 := hide (CT.out (x i))
      have N1 : Hid (timC (x i) = false → R = false) := hide fun h => by rw [HO.out]; exact rngK_false (f := fun i => timC (x i)) hlt h
      have Y1 : Hid (timC (x i) = true → ((List.range (i + 1)).all fun i => timC (x i)) = true) := hide fun h => by rw [rngK_succ, HA.out, h]; rfl
      generalize x i = t at *
      generalize timC t = tb at *
      clear AM HO HA CT
      go_wp2_with fail
      refine C1.out.mono ?_
      rintro e w2 ⟨rfl, rfl⟩
      cases tb with
      | false =>
        have N2 := hide (N1.out rfl)
        clear N1 Y1
        go_wp2_with fail
        go_ret
        exact ⟨⟨(i : Int), rfl, .inl ⟨by omega, N2.out⟩⟩, rfl⟩
      | true =>
        have Y2 := hide (Y1.out rfl)
        clear N1 Y1
        go_wp2_with fail
        go_roundw
        case rel => exact ⟨i + 1, by go_num, by omega, Y2.out, by first | rfl | trivial⟩
        case measure => simp [intOf]; omega
    · have hltz : ¬ (i : Int) < (n : Int) := by omega
      obtain rfl : i = n := by omega
      have HY : Hid (R = true) := hide (by rw [HO.out, HA.out])
      clear AM HO HA CT
      go_wp2_with fail
      go_ret
      exact ⟨⟨-1, rfl, .inr ⟨rfl, HY.out⟩⟩, rfl⟩

set_option maxRecDepth 100000 in
theorem contf_any (M : List Int) (mo : Option Addr) (mc : Nat) (w : World) (hm : encJ.Mem w mo M) (hl : M.length ≤ 1000) : Calls Try.prog 32 #[.slice mo M.length mc, .func (.func 33) #[] #[]] w fun e w' => e = .returned (.bool (!((List.range M.length).all fun i => timC (M.getD i 0)))) ∧ w' = w := by
  have C := hide (idxf_any M mo mc w hm hl)
  clear hm
  generalize ((List.range M.length).all fun i => timC (M.getD i 0)) = R at *
  generalize M.length = n at *
  go_enter Try.func32, Try.ntmps32
  go_wp2_with fail
  refine C.out.mono ?_
  rintro e w9 ⟨⟨k, rfl, ⟨h1, rfl⟩ | ⟨rfl, rfl⟩⟩, rfl⟩
  · go_wp2_with fail
    go_ret
    exact ⟨rfl, rfl⟩
  · go_wp2_with fail
    go_ret
    exact ⟨rfl, rfl⟩

/-- An empty pile. -/
theorem pl_none {w : World} {p : Nat} (h : w.heap[p]? = some (.cells #[.slice none 0 0] 74 (0, 0))) : Pl w p (fun g => g = p) [] :=
  ⟨⟨none, 0, h, Rc.Own.nil _ _ _, fun g hg => by simp [Value.ownBlock] at hg⟩, ⟨fun i hi => (nomatch hi), fun i j hi => (nomatch hi)⟩, rfl, fun i hi => (nomatch hi)⟩

set_option maxRecDepth 100000 in
set_option maxHeartbeats 1000000 in
theorem of_any (M : List Int) (mo : Option Addr) (mc : Nat) (w : World) (hM : encJ.Sl w mo mc M) (hl : M.length ≤ 17592186043904) : Calls Try.prog 9 #[.slice mo M.length mc] w fun e w' => (ofB M = false ∧ e = .returned (.tuple #[.pointer none, .int .i64 2]) ∧ Calm w w') ∨ (ofB M = true ∧ ∃ q, e = .returned (.tuple #[cp q, .int .i64 0]) ∧ Clk w' q (fun g => w.heap.size ≤ g ∧ g < w'.heap.size) M [] ∧ Calm w w') := by
  by_cases h1 : M.length < 1
  · have e : ofB M = false := by unfold ofB; rw [decide_eq_false (by omega)]; rfl
    have z1 : (M.length : Int) < 1 := by omega
    generalize M.length = n at *
    have HE := hide e
    clear hM e
    go_enter Try.func9, Try.ntmps9
    go_wp2_with fail
    go_ret2
    exact .inl ⟨HE.out, rfl, Touch.refl _ _⟩
  by_cases h2 : 64 < M.length
  · have e : ofB M = false := by unfold ofB; rw [decide_eq_false (p := M.length ≤ 64) (by omega)]; simp
    have z1 : ¬ (M.length : Int) < 1 := by omega
    have z2 : 64 < (M.length : Int) := by omega
    generalize M.length = n at *
    have HE := hide e
    clear hM e
    go_enter Try.func9, Try.ntmps9
    go_wp2_with fail
    go_ret2
    exact .inl ⟨HE.out, rfl, Touch.refl _ _⟩
  have e0 : ofB M = (List.range M.length).all fun i => timC (M.getD i 0) := by unfold ofB; rw [decide_eq_true (by omega), decide_eq_true (by omega)]; rfl
  have CF := hide (contf_any M mo mc w hM.mem (by omega))
  rw [← e0] at CF
  have hne : M ≠ [] := by intro e; rw [e] at h1; simp at h1
  have CC := hide (sclone_any M mo mc w hM hne (by omega))
  have z1 : ¬ (M.length : Int) < 1 := by omega
  have z2 : ¬ 64 < (M.length : Int) := by omega
  have FIN : Hid (∀ (a : Option Addr) (c : Nat) (w1 : World), encJ.Own 2 w1 w.heap.size (.slice a M.length c) M → Calm w w1 → Clk (((w1.alloc (.cells #[.slice none 0 0] 74)).alloc (.map #[] 0)).alloc (.cells #[.slice a M.length c, cp w1.heap.size, .map (some (w1.heap.size + 1))] 69)) (w1.heap.size + 2) (fun g => w.heap.size ≤ g ∧ g < (((w1.alloc (.cells #[.slice none 0 0] 74)).alloc (.map #[] 0)).alloc (.cells #[.slice a M.length c, cp w1.heap.size, .map (some (w1.heap.size + 1))] 69)).heap.size) M [] ∧ Calm w (((w1.alloc (.cells #[.slice none 0 0] 74)).alloc (.map #[] 0)).alloc (.cells #[.slice a M.length c, cp w1.heap.size, .map (some (w1.heap.size + 1))] 69))) := hide fun a c w1 ow t1 => by
    have sz0 := t1.size
    have A1 := al_new w1 (.cells #[.slice none 0 0] 74)
    have T1 := (Touch.refl (fun _ => False) w1).alloc (.cells #[.slice none 0 0] 74)
    have S1 := al_size w1 (.cells #[.slice none 0 0] 74)
    generalize w1.alloc (.cells #[.slice none 0 0] 74) = w2 at *
    have M2 := Mp.new w2
    have T2 := (Touch.refl (fun _ => False) w2).alloc (.map #[] 0)
    have S2 := al_size w2 (.map #[] 0)
    rw [S1] at M2
    generalize w2.alloc (.map #[] 0) = w3 at *
    have A3 := al_new w3 (.cells #[.slice a M.length c, cp w1.heap.size, .map (some (w1.heap.size + 1))] 69)
    have T3 := (Touch.refl (fun _ => False) w3).alloc (.cells #[.slice a M.length c, cp w1.heap.size, .map (some (w1.heap.size + 1))] 69)
    have S3 := al_size w3 (.cells #[.slice a M.length c, cp w1.heap.size, .map (some (w1.heap.size + 1))] 69)
    generalize w3.alloc (.cells #[.slice a M.length c, cp w1.heap.size, .map (some (w1.heap.size + 1))] 69) = w4 at *
    have e3 : w3.heap.size = w1.heap.size + 2 := by omega
    rw [e3] at A3
    have T14 : Calm w1 w4 := (T1.tr T2).tr T3
    refine ⟨⟨⟨[], w1.heap.size, w1.heap.size + 1, fun _ => none, a, c, fun g => g = w1.heap.size, A3, Rc.Own.base (Rc.Own.calm ow T14) (Nat.zero_le _), fun g hg => ?_, pl_none ((T2.tr T3).at A1), fun g hg => ?_, M2.calm T3, ⟨by omega, by omega⟩, Fm.nil, Lk.nil, fun k a b => (nomatch b), fun v hv => (nomatch hv)⟩, ⟨by omega, by omega⟩, fun g hg => hg.2, hne, by omega⟩, t1.tr T14⟩
    · have := own_lt ow hg
      omega
    · subst hg
      refine ⟨⟨by omega, by omega⟩, by omega, by omega, fun h => ?_⟩
      have := own_lt ow h
      omega
  clear hM hne e0
  by_cases hR : ofB M = false
  · rw [hR] at CF
    have HR := hide hR
    clear hR CC FIN
    generalize ofB M = R at *
    generalize hn : M.length = n at *
    go_enter Try.func9, Try.ntmps9
    go_wp2_with fail
    refine CF.out.mono ?_
    rintro e w9 ⟨rfl, rfl⟩
    clear CF
    go_wp2_with fail
    go_ret2
    exact .inl ⟨HR.out, rfl, Touch.refl _ _⟩
  · have hR : ofB M = true := by simpa using hR
    rw [hR] at CF
    have HR := hide hR
    clear hR
    generalize ofB M = R at *
    generalize hn : M.length = n at *
    have MM : ∀ W : World, (Instr.makeMap 67 none).run Try.prog W = .ok (.map (some W.heap.size)) (W.alloc (.map #[] 0)) := fun W => by kernel_rfl
    go_enter Try.func9, Try.ntmps9
    go_wp2_with fail
    refine CF.out.mono ?_
    rintro e w9 ⟨rfl, rfl⟩
    clear CF
    go_wp2_with fail
    refine CC.out.mono ?_
    rintro e w1 ⟨a, c, rfl, ow, t1⟩
    have F1 := hide (FIN.out a c w1 ow t1)
    clear ow t1 FIN CC
    go_wp2_with fail
    go_ret2
    exact .inr ⟨HR.out, w1.heap.size + 2, rfl, F1.out⟩

end Go.Proofs.Ytcmigkemhoecfaa
