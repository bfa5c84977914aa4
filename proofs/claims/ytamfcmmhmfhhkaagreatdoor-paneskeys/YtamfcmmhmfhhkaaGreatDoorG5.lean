/- An append, as an operation. Keys: each key and its panes (the document's; the walk). Two lists of keys' panes that are the same are told to be so (the document's). Of: the panes of a key, in the list's order (the document's). -/
import Derived.Test.YtamfcmmhmfhhkaaGreatDoorG0
import Derived.Test.YtamfcmmhmfhhkaaGreatDoorG4
import Derived.Great.BuildSlice
import Derived.Test.YtamfcmmhmfhhkaaGreatDoorG2
namespace Go.Proofs.YtamfcmmhmfhhkaaGreatDoor
open Go.RowKit

/-- An append, as an operation. -/
theorem exec_apk {P : Program} {w w' : World} {o : Oper} {a : Act} (s x : Operand) (t tx : TypeId) (ho : o.op = .call { callee := .builtin .append, args := #[s, x], argTypes := #[t, tx] }) (v y r : Value) (hv : a.eval s = v) (hy : a.eval x = y)
    (hr : (Builtin.append_ #[t, tx] o.type #[v, y]).run P w = .ok r w') : (execOp a.eval o).run P w = .ok (.value r) w' := by
  unfold execOp
  simp only [ho, resolve, invoke, builtin, Sem.run_bind, Sem.run_pure, Result.andThen_ok, List.map_toArray, List.map_cons, List.map_nil, hv, hy, hr]

end Go.Proofs.YtamfcmmhmfhhkaaGreatDoor

namespace Go.Proofs.YtamfcmmhmfhhkaaGreatDoor
open Go.RowKit

end Go.Proofs.YtamfcmmhmfhhkaaGreatDoor

namespace Go.Proofs.YtamfcmmhmfhhkaaGreatDoor
open Go.RowKit

theorem kp_W {w : World} {ao : Option Addr} {L : List Kp} (h : encG.Mem w ao L) (j : Nat) (hj : j < L.length) : ∃ g off, ao = some ⟨g, off, none⟩ ∧ ∀ W, Calm w W → W.cell? ⟨g, off + j * 2, none⟩ = some (.string (L.getD j kp0).k) ∧ W.cell? ⟨g, off + j * 2 + 1, none⟩ = some (.slice (L.getD j kp0).o (L.getD j kp0).n (L.getD j kp0).c) := by
  obtain ⟨g, off, e, -⟩ := kp_at h j hj
  refine ⟨g, off, e, fun W hW => ?_⟩
  obtain ⟨g2, off2, e2, k⟩ := kp_at (Rc.Mem.calm h hW) j hj
  rw [e] at e2
  injection e2 with e2
  injection e2 with e3 e4
  subst e3 e4
  exact k

end Go.Proofs.YtamfcmmhmfhhkaaGreatDoor

namespace Go.Proofs.YtamfcmmhmfhhkaaGreatDoor
open Go.RowKit

set_option maxRecDepth 100000 in
set_option maxHeartbeats 2000000 in
theorem rof_any (L : List Pn) (key : ByteArray) (ao : Option Addr) (ac : Nat) (w : World) (ha : encP.Mem w ao L) (hl : L.length ≤ 1000000000000) : Calls Tryz.prog 15 #[.slice ao L.length ac, .string key] w fun e w' => RetP w e w' (ofP L key) := by
  obtain ⟨x, hx⟩ : ∃ x : Nat → Pn, ∀ i, x i = L.getD i pn0 := ⟨fun i => L.getD i pn0, fun _ => rfl⟩
  have SA : Hid (∀ j, j < L.length → ∃ g off, ao = some ⟨g, off, none⟩ ∧ ∀ W, Calm w W → pcell W g (off + j * 9) (x j)) := hide fun j hj => by
    rw [hx]; exact pn_W ha j hj
  obtain ⟨o, ho⟩ : ∃ o : Nat → List Pn, ∀ i, o i = ofP (L.take i) key := ⟨fun i => ofP (L.take i) key, fun _ => rfl⟩
  have O0 : Hid (o 0 = []) := hide (by rw [ho]; rfl)
  have OS : Hid (∀ i, i < L.length → o (i + 1) = o i ++ (if (x i).k = key then [x i] else [])) := hide fun i hi => by
    rw [ho, ho, hx]; exact ofP_succ hi
  have OL : Hid (∀ i, i ≤ L.length → (o i).length ≤ i) := hide fun i hi => by
    rw [ho]; exact Nat.le_trans (ofP_le _ _) (by rw [List.length_take]; omega)
  have OE : Hid (o L.length = ofP L key) := hide (by rw [ho, List.take_length])
  unfold RetP
  clear ha hx ho
  generalize ofP L key = Z at *
  generalize L.length = n at *
  go_enter Tryz.func15, Tryz.ntmps15
  go_wp2_with fail
  go_loopw [5, 6] (fun s5 s6 wr => ∃ (i : Nat) (a : Option Addr) (k : Nat), s6 = .int .i64 (i : Int) ∧ i ≤ n ∧ s5 = .slice a (o i).length k ∧ encP.Own 40 wr w.heap.size (.slice a (o i).length k) (o i) ∧ Calm w wr) (fun _ s6 _ => n - (intOf s6).toNat)
  case atStart => exact ⟨0, none, 0, rfl, by omega, by rw [O0.out]; rfl, by rw [O0.out]; exact Rc.Own.nil _ _ _, Touch.refl _ _⟩
  case round =>
    obtain ⟨i, a, k, rfl, hi, rfl, OW, TE⟩ := hrel
    by_cases hlt : i < n
    · have hltz : (i : Int) < (n : Int) := by omega
      obtain ⟨ga, oa, rfl, ca⟩ := SA.out i hlt
      have hs := hide (OS.out i hlt)
      have hll := hide (OL.out i hi)
      have hsz := hide TE.size
      have hrow := ca wr TE
      have KA := hide ca
      generalize x i = p at *
      by_cases hk : p.k = key
      · have ho1 : Hid (o (i + 1) = o i ++ [p]) := hide (by rw [hs.out, if_pos hk])
        obtain ⟨a4, p4, w4, hr, ow, t2⟩ := pn_app1 p OW (by have := hsz.out; omega) (by have := hll.out; omega)
        rw [← ho1.out] at ow
        have e1 : (o (i + 1)).length = (o i).length + 1 := by rw [ho1.out]; simp
        have T6 : Calm w w4 := Rc.Own.fresh (w0 := w) OW t2 (fun _ h => h) TE (Nat.le_refl _)
        have hr' := hr
        rw [← e1] at hr'
        have HR := hide hr'
        have HO := hide ow
        have HT := hide T6
        obtain ⟨pk, pa, pb, pd, pn, ⟨t0, t1, t2', t3⟩⟩ := p
        subst hk
        obtain ⟨⟨c0, c1, c2, c3, c4⟩, c5, c6, c7, c8⟩ := hrow
        clear SA OS OL KA OW TE hr hr' ow t2 T6 hs ca e1
        go_wp2_with (at_builtin; refine Rc.wpList_appR rfl (.tmp 20) (.tmp 25) 22 22 rfl _ _ _ rfl rfl HR.out ?_)
        go_roundw
        case rel => exact ⟨i + 1, a4, p4, by go_num, by omega, rfl, HO.out, HT.out⟩
        case measure => simp [intOf]; omega
      · have ho1 : Hid (o (i + 1) = o i) := hide (by rw [hs.out, if_neg hk, List.append_nil])
        have hkl : Hid ((p.k.toList == key.toList) = false) := hide (by rw [ba_beq, decide_eq_false hk])
        have HO := hide OW
        have HT := hide TE
        obtain ⟨⟨c0, c1, c2, c3, c4⟩, -⟩ := hrow
        clear SA OS OL KA OW TE hs ca
        have hkk := hkl.out
        go_wp2_with fail
        go_roundw
        case rel => exact ⟨i + 1, a, k, by go_num, by omega, by rw [ho1.out], by rw [ho1.out]; exact HO.out, HT.out⟩
        case measure => simp [intOf]; omega
    · have hltz : ¬ (i : Int) < (n : Int) := by omega
      obtain rfl : i = n := by omega
      have HO := hide OW
      have HT := hide TE
      have hz := OE.out
      clear SA OS OL OW TE
      go_wp2_with fail
      go_ret
      exact ⟨a, k, by rw [← hz]; rfl, by rw [← hz]; exact HO.out, HT.out⟩

end Go.Proofs.YtamfcmmhmfhhkaaGreatDoor
