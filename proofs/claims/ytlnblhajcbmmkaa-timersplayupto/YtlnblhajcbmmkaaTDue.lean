/- What is due. -/
import Derived.Test.YtlnblhajcbmmkaaTNew
namespace Go.Proofs.Ytlnblhajcbmmkaa
open Go.RowKit

theorem cmp_at {a b : Tm} (h : cmpT a b < 0) : a.at_ ≤ b.at_ := by
  unfold cmpT thn at h
  unfold cmpI at h
  by_cases h1 : a.at_ < b.at_
  · omega
  · by_cases h2 : b.at_ < a.at_
    · rw [if_neg h1, if_pos h2] at h
      simp at h
    · omega

theorem Tq.first {F : Nat → Prop} {w : World} {q : Nat} {V : List Tm} (h : Tq w q F V) : ∀ x ∈ V, x ≠ nth V 0 → cmpT (nth V 0) x < 0 := fun x hx hn => by
  obtain ⟨ao, cap, mb, f, _, h2, _⟩ := h.ex
  obtain ⟨i, hi, e⟩ := mem_nth.1 hx
  have h0 : i ≠ 0 := fun e0 => hn (by rw [← e, e0])
  rw [← e]
  exact h2.ord.first i (by omega) hi

/-- How far Due has come. -/
structure DueM (V : List Tm) (upto : Int) (D V1 : List Tm) : Prop where
  srt : D.Pairwise fun a b => cmpT a b < 0
  low : ∀ x ∈ D, x.at_ ≤ upto
  mem : ∀ x, x ∈ V ↔ x ∈ D ∨ x ∈ V1
  sep : ∀ x ∈ D, ∀ y ∈ V1, cmpT x y < 0
  cnt : D.length + V1.length = V.length

theorem DueM.step {V D V1 V2 : List Tm} {upto : Int} (h : DueM V upto D V1) (n1 : Nd V1) (n2 : Nd V2) (h0 : 0 < V1.length) (hf : ∀ x ∈ V1, x ≠ nth V1 0 → cmpT (nth V1 0) x < 0) (hm : ∀ x, x ∈ V2 ↔ x ∈ V1 ∧ x ≠ nth V1 0) (hu : (nth V1 0).at_ ≤ upto) : DueM V upto (D ++ [nth V1 0]) V2 := by
  have hin : nth V1 0 ∈ V1 := mem_nth.2 ⟨0, h0, rfl⟩
  have hl : V2.length + 1 = V1.length := by
    have := same_len (A := nth V1 0 :: V2) (B := V1) (List.nodup_cons.2 ⟨fun hx => ((hm _).1 hx).2 rfl, n2.nodup⟩) n1.nodup (fun x => by
      rw [List.mem_cons, hm]
      constructor
      · rintro (rfl | h)
        · exact hin
        · exact h.1
      · intro hx
        by_cases e : x = nth V1 0
        · exact .inl e
        · exact .inr ⟨hx, e⟩)
    simpa using this
  refine ⟨?_, fun x hx => ?_, fun x => ?_, fun x hx y hy => ?_, ?_⟩
  · rw [List.pairwise_append]
    exact ⟨h.srt, List.pairwise_singleton _ _, fun a ha b hb => by rw [List.mem_singleton.1 hb]; exact h.sep a ha _ hin⟩
  · rcases List.mem_append.1 hx with hx | hx
    · exact h.low x hx
    · rw [List.mem_singleton.1 hx]; exact hu
  · rw [h.mem, List.mem_append, List.mem_singleton, hm]
    constructor
    · rintro (hx | hx)
      · exact .inl (.inl hx)
      · by_cases e : x = nth V1 0
        · exact .inl (.inr e)
        · exact .inr ⟨hx, e⟩
    · rintro ((hx | hx) | hx)
      · exact .inl hx
      · rw [hx]; exact .inr hin
      · exact .inr hx.1
  · rcases List.mem_append.1 hx with hx | hx
    · exact h.sep x hx y ((hm y).1 hy).1
    · rw [List.mem_singleton.1 hx]; exact hf y ((hm y).1 hy).1 ((hm y).1 hy).2
  · have := h.cnt
    rw [List.length_append]
    simp only [List.length_cons, List.length_nil]
    omega

theorem DueM.done {V D V1 : List Tm} {upto : Int} (h : DueM V upto D V1) (hv : ∀ x ∈ V1, upto < x.at_) : (∀ x, x ∈ D ↔ x ∈ V ∧ x.at_ ≤ upto) ∧ (∀ x, x ∈ V1 ↔ x ∈ V ∧ upto < x.at_) := by
  refine ⟨fun x => ⟨fun hx => ⟨(h.mem x).2 (.inl hx), h.low x hx⟩, fun hx => ?_⟩, fun x => ⟨fun hx => ⟨(h.mem x).2 (.inr hx), hv x hx⟩, fun hx => ?_⟩⟩
  · rcases (h.mem x).1 hx.1 with h1 | h1
    · exact h1
    · have := hv x h1; omega
  · rcases (h.mem x).1 hx.1 with h1 | h1
    · have := h.low x h1; omega
    · exact h1

/-- What Due does. -/
def DueR (w : World) (q : Nat) (F : Nat → Prop) (V : List Tm) (upto : Int) (e : Ending) (w' : World) : Prop :=
  ∃ D V1 ao cap, e = .returned (.slice ao D.length cap) ∧ OwnT w' w.heap.size (.slice ao D.length cap) D ∧ Tq w' q F V1 ∧ (D.Pairwise fun a b => cmpT a b < 0) ∧ (∀ x, x ∈ D ↔ x ∈ V ∧ x.at_ ≤ upto) ∧ (∀ x, x ∈ V1 ↔ x ∈ V ∧ upto < x.at_) ∧ Touch F w w'

theorem wpList_tapp {w : World} {ops : Array Oper} {rest : List Oper} {o : Oper} {a : Act} {Q : Exit → Act → World → Prop} (hgd : o.guard = none) (s x : Operand)
    (ho : o.op = .call { callee := .builtin .append, args := #[s, x], argTypes := #[22, 22] }) (base : Nat) (v : Value) (L : List Tm) (hs : a.eval s = v) (hown : OwnT w base v L)
    (ao : Option Addr) (m c : Nat) (M : List Tm) (hm : M.length = m) (hx : a.eval x = .slice ao m c) (hp : Tms w ao M) (hc : ao = none → c = 0) (hb : L.length + M.length ≤ 3518437208800) (hbase : base ≤ w.heap.size)
    (h : ∀ ao' cap' w', OwnT w' base (.slice ao' (L ++ M).length cap') (L ++ M) → Touch (fun g => v.ownBlock = some g) w w' → wpList Try.prog ops Q rest (a.put o.dst (.slice ao' (L ++ M).length cap')) w') : wpList Try.prog ops Q (o :: rest) a w :=
  wpList_plain hgd fun K hK => by
    subst hm
    obtain ⟨ao', cap', w', hr, h1, h2, -⟩ := run_tapp w base o.type v L hown ao c M hp hc hb hbase
    unfold Oper.wp
    rw [exec_tapp ho (by rw [hs, hx]; exact hr)]
    exact hK _ _ (h ao' cap' w' h1 h2)

/-- A slice's length. -/
def lenOf : Value → Nat
  | .slice _ n _ => n
  | _ => 0

set_option maxRecDepth 100000 in
set_option maxHeartbeats 2000000 in
theorem due_any (q : Nat) (F : Nat → Prop) (V : List Tm) (upto : Int) (w : World) (h : Tq w q F V) (hb : V.length < 3518437208790) :
    Calls Try.prog 18 #[.pointer (some ⟨q, 0, none⟩), .int .i64 upto] w (DueR w q F V upto) := by
  have H := hide h
  have HB := hide hb
  clear h hb
  go_enter Try.func18, Try.ntmps18
  go_wp2_with fail
  go_loopw [5] (fun v wr => ∃ (D V1 : List Tm) (ao : Option Addr) (cap : Nat), v = .slice ao D.length cap ∧ OwnT wr w.heap.size (.slice ao D.length cap) D ∧ Tq wr q F V1 ∧ DueM V upto D V1 ∧ Touch F w wr) (fun v _ => V.length - lenOf v)
  case atStart => exact ⟨[], V, none, 0, rfl, World.ownsRow_nil _ _ _ _, H.out, ⟨List.Pairwise.nil, fun _ h => (nomatch h), fun x => by simp, fun _ h => (nomatch h), by simp⟩, Touch.refl _ _⟩
  case round =>
    obtain ⟨D, V1, ao, cap, rfl, ow, tq, dm, tr⟩ := hrel
    have OW := hide ow
    have TQ := hide tq
    have DM := hide dm
    have TR := hide tr
    have LN := hide (len_any q F V1 wr tq)
    have HV1 : Hid (V1.length < 3518437208790) := hide (by have := dm.cnt; have := HB.out; omega)
    have HDL : Hid (D.length + 1 ≤ 3518437208800 ∧ (0 < V1.length → D.length < V.length)) := hide (by have := dm.cnt; have := HB.out; omega)
    obtain ⟨ao1, cap1, mb, f, qm, -⟩ := tq.ex
    by_cases h0 : V1 = []
    · subst h0
      have RES : Hid (DueR w q F V upto (.returned (.slice ao D.length cap)) wr) := hide ⟨D, [], ao, cap, rfl, OW.out, TQ.out, DM.out.srt, (DM.out.done (fun _ h => (nomatch h))).1, (DM.out.done (fun _ h => (nomatch h))).2, TR.out⟩
      clear qm ow tq dm tr
      simp only [List.length_nil] at LN
      go_wp2_with fail
      refine LN.out.mono ?_
      rintro e w' ⟨rfl, hq⟩
      subst hq
      go_wp2_with fail
      go_ret
      exact RES.out
    · have hp : 0 < V1.length := List.length_pos_iff.2 h0
      obtain ⟨g, eg⟩ := qm.shape hp
      subst eg
      obtain ⟨c0, c1⟩ := qm.cells
      obtain ⟨d0, -⟩ := qm.at_ hp
      have GD : Hid (Good (nth V1 0)) := hide (tq.good _ (mem_nth.2 ⟨0, hp, rfl⟩))
      have HP := hide hp
      have hli : (0 : Int) < (V1.length : Int) := by omega
      have AP := hide (fun W => apart_any (nth V1 0) W GD.out)
      have TK := hide (take_any q F V1 0 wr tq hp HV1.out)
      have ND1 := hide tq.nd
      have FS := hide tq.first
      rw [Nat.zero_mul] at d0
      generalize hx : nth V1 0 = x at *
      have HX := hide hx
      clear qm ow tq dm tr hx h0 hp
      generalize hL1 : V1.length = L1 at *
      have HL1 := hide hL1
      clear hL1
      by_cases hu : x.at_ ≤ upto
      · have HU := hide hu
        obtain ⟨LD, hld⟩ : ∃ LD, D.length = LD := ⟨_, rfl⟩
        have HLD := hide hld
        rw [hld] at OW ⊢
        clear hld
        go_wp2_with fail
        refine LN.out.mono ?_
        rintro e w' ⟨rfl, hq⟩
        subst hq
        go_wp2_with fail
        refine TK.out.mono ?_
        rintro e w2 ⟨rfl, ⟨V2, tq2, m2⟩, t2⟩
        have TQ2 := hide tq2
        have M2 := hide m2
        have T2 := hide t2
        clear tq2 m2 t2 c0 c1 d0 TK LN
        go_wp2_with fail
        refine (AP.out _).mono ?_
        rintro e w3 ⟨rfl, t3⟩
        have tB : Calm w3 (w3.alloc (.cells (tc x) 35)) := (Touch.refl _ _).alloc _
        have hFw : ∀ g, F g → g < w.heap.size := H.out.lt
        have OW3 : OwnT (w3.alloc (.cells (tc x) 35)) w.heap.size (.slice ao LD cap) D := ((OwnT.touch OW.out T2.out (fun g hg hF => by have := (own_block OW.out hg).1; have := hFw g hF; omega)).calm t3).calm tB
        have PM := tms_one w3 x
        have T3 : Hid (Touch F w (w3.alloc (.cells (tc x) 35))) := hide ((TR.out.trans T2.out (fun _ _ h => h)).trans ((t3.tr tB).mono (fun _ _ h => h.elim)) (fun _ _ h => h))
        have TQ3 := hide ((TQ2.out.calm t3).calm tB)
        have OW3H := hide OW3
        have PMH := hide PM
        have HBD : Hid (D.length + [x].length ≤ 3518437208800) := hide (by simpa using HDL.out.1)
        have HFW := hide hFw
        clear t3 tB OW3 PM hFw
        go_wp2_with (at_builtin; refine wpList_tapp rfl (.tmp 20) (.tmp 24) rfl w.heap.size _ D rfl OW3H.out (some ⟨w3.heap.size, 0, none⟩) 1 1 [x] rfl rfl PMH.out (fun h => (nomatch h)) HBD.out T3.out.size ?ny)
        case ny =>
          intro ao4 cap4 w4 ow4 t4
          have e9 : (D ++ [x]).length = D.length + 1 := by simp
          have T4 : Hid (Touch F w w4) := hide (T3.out.trans t4 (fun g hg hs => by have := (own_block OW3H.out hs).1; omega))
          have TQ4 : Hid (Tq w4 q F V2) := hide (TQ3.out.touch t4 (fun g hs hF => by have := (own_block OW3H.out hs).1; have := HFW.out g hF; omega))
          have RES : Hid (OwnT w4 w.heap.size (.slice ao4 (D ++ [x]).length cap4) (D ++ [x]) ∧ Tq w4 q F V2 ∧ DueM V upto (D ++ [x]) V2 ∧ Touch F w w4) := hide ⟨by rw [e9]; exact ow4, TQ4.out, by
            have := DM.out.step ND1.out TQ4.out.nd (by rw [HL1.out]; exact HP.out) (by rw [HX.out]; exact FS.out) (by rw [HX.out]; exact M2.out) (by rw [HX.out]; exact HU.out)
            rw [HX.out] at this; exact this, T4.out⟩
          clear ow4 t4 T3 TQ3 T4 TQ4
          rw [e9] at RES
          obtain ⟨LE, hle⟩ : ∃ LE, D.length + 1 = LE := ⟨_, rfl⟩
          have HLE2 := hide (e9.trans hle)
          rw [hle] at RES ⊢
          have HLE : Hid (LE = LD + 1) := hide (by rw [← hle, HLD.out])
          clear hle e9
          go_wp2_with fail
          go_roundw
          case rel => exact ⟨D ++ [x], V2, ao4, cap4, by rw [HLE2.out], by rw [HLE2.out]; exact RES.out.1, RES.out.2⟩
          case measure => have := HLE.out; have := HDL.out.2 HP.out; have := HLD.out; simp [lenOf]; omega
      · have RES : Hid (DueR w q F V upto (.returned (.slice ao D.length cap)) wr) := hide (by
          have hv : ∀ y ∈ V1, upto < y.at_ := fun y hy => by
            by_cases e : y = x
            · rw [e]; omega
            · have := cmp_at (FS.out y hy e); omega
          exact ⟨D, V1, ao, cap, rfl, OW.out, TQ.out, DM.out.srt, (DM.out.done hv).1, (DM.out.done hv).2, TR.out⟩)
        clear TK AP
        go_wp2_with fail
        refine LN.out.mono ?_
        rintro e w' ⟨rfl, hq⟩
        subst hq
        go_wp2_with fail
        go_ret
        exact RES.out

end Go.Proofs.Ytlnblhajcbmmkaa
