/- The document's router: a message to all; the same lists. -/
import Derived.Test.YtapnjofplilefaaGreatZB
import Derived.Test.YtapnjofplilefaaGreatZ1
import Derived.Laws.StructEq
namespace Go.Proofs.YtapnjofplilefaaGreat
open Go.RowKit

set_option maxRecDepth 100000 in
set_option maxHeartbeats 2000000 in
theorem rall_any {w : World} {q : Nat} {F : Nat → Prop} {c : Cf} {s : Int} {L : List Int} (n : Nat) (x : Sn) (h : Rr w q F c n L s) (hn : n ≤ 32768) : Calls Tryz.prog 34 #[rp q, .agg #[.int .i64 x.ki, .int .i64 x.sq, .string x.ke, .int .i64 x.tm, .int .i64 x.va]] w fun e w' => ∃ a k, e = .returned (.slice a n k) ∧ encSn.Own 65 w' w.heap.size (.slice a n k) (allS n x) ∧ Calm w w' := by
  obtain ⟨lo, lc, h1, -⟩ := h.ex
  have HC : Hid (∀ W, Calm w W → W.cell? ⟨q, 10, none⟩ = some (.int .i64 (n : Int))) := hide fun W hW => (rr_cells (hW.at h1)).2.1
  have AM := hide (al_new w (.cells #[.int .i64 x.ki, .int .i64 x.sq, .string x.ke, .int .i64 x.tm, .int .i64 x.va] 63))
  have TM := hide ((Touch.refl (fun _ => False) w).alloc (.cells #[.int .i64 x.ki, .int .i64 x.sq, .string x.ke, .int .i64 x.tm, .int .i64 x.va] 63))
  have SM := hide (al_size w (.cells #[.int .i64 x.ki, .int .i64 x.sq, .string x.ke, .int .i64 x.tm, .int .i64 x.va] 63))
  clear h h1
  go_enter Tryz.func34, Tryz.ntmps34
  go_wp2_with fail
  generalize w.alloc (.cells #[.int .i64 x.ki, .int .i64 x.sq, .string x.ke, .int .i64 x.tm, .int .i64 x.va] 63) = w1 at *
  go_loopw [5, 6] (fun s5 s6 wr => ∃ (i : Nat) (a : Option Addr) (k : Nat), s6 = .int .i64 (i : Int) ∧ i ≤ n ∧ s5 = .slice a i k ∧ encSn.Own 65 wr (w.heap.size + 1) (.slice a i k) (allS i x) ∧ Calm w1 wr) (fun _ s6 _ => n - (intOf s6).toNat)
  case atStart => exact ⟨0, none, 0, rfl, by omega, rfl, Rc.Own.nil _ _ _, Touch.refl _ _⟩
  case round =>
    obtain ⟨i, a, k, rfl, hi, rfl, OE, TE⟩ := hrel
    have cn := HC.out wr (TM.out.tr TE)
    have am := TE.at AM.out
    have hsz := TE.size
    by_cases hlt : i < n
    · have hltz : (i : Int) < (n : Int) := by omega
      have OE1 : encSn.Own 65 wr (w.heap.size + 1) (.slice a (allS i x).length k) (allS i x) := by rw [all_len]; exact OE
      obtain ⟨a4, p4, w4, hr, ow, t2⟩ := sn_app1 ⟨(i : Int), x.ki, x.sq, x.ke, x.tm, x.va⟩ OE1 (by have := SM.out; omega) (by rw [all_len]; omega)
      have e0 : (allS i x).length = i := all_len i x
      rw [← all_succ, all_len] at ow
      rw [e0] at hr t2
      have T6 : Calm w1 w4 := Rc.Own.fresh (w0 := w1) OE t2 (fun _ h => h) TE (by have := SM.out; omega)
      obtain ⟨m0, m1, m2, m3, m4⟩ : wr.cell? ⟨w.heap.size, 0, none⟩ = some (.int .i64 x.ki) ∧ wr.cell? ⟨w.heap.size, 1, none⟩ = some (.int .i64 x.sq) ∧ wr.cell? ⟨w.heap.size, 2, none⟩ = some (.string x.ke) ∧ wr.cell? ⟨w.heap.size, 3, none⟩ = some (.int .i64 x.tm) ∧ wr.cell? ⟨w.heap.size, 4, none⟩ = some (.int .i64 x.va) := by simp [World.cell?, am]
      have HR := hide hr
      have HO := hide ow
      have HT := hide T6
      clear OE OE1 TE hr ow t2 T6 am hsz e0 TM AM HC SM
      go_wp2_with (at_builtin; refine Rc.wpList_appR rfl (.tmp 15) (.tmp 19) 55 55 rfl _ _ _ rfl rfl HR.out ?_)
      go_roundw
      case rel => exact ⟨i + 1, a4, p4, by go_num, by omega, rfl, HO.out, HT.out⟩
      case measure => simp [intOf]; omega
    · have hltz : ¬ (i : Int) < (n : Int) := by omega
      obtain rfl : i = n := by omega
      have HO := hide (Rc.Own.base OE (Nat.le_succ _))
      have HT := hide (TM.out.tr TE)
      clear OE TE am hsz TM AM HC SM
      go_wp2_with fail
      go_ret
      exact ⟨a, k, rfl, HO.out, HT.out⟩

set_option maxRecDepth 100000 in
set_option maxHeartbeats 2000000 in
/-- The same lists. -/
theorem sameSent_any (L : List Sn) (ao bo : Option Addr) (ac bc : Nat) (w : World) (ha : encSn.Mem w ao L) (hb : encSn.Mem w bo L) (hl : L.length ≤ 140737488355328) : Calls Tryz.prog 18 #[.slice ao L.length ac, .slice bo L.length bc] w fun e w' => e = .returned (.bool true) ∧ Calm w w' := by
  obtain ⟨x, hx⟩ : ∃ x : Nat → Sn, ∀ i, x i = L.getD i sn0 := ⟨fun i => L.getD i sn0, fun _ => rfl⟩
  have SA : Hid (∀ j, j < L.length → ∃ g off, ao = some ⟨g, off, none⟩ ∧ ∀ W, Calm w W → (W.cell? ⟨g, off + j * 6, none⟩ = some (.int .i64 (x j).wk) ∧ W.cell? ⟨g, off + j * 6 + 1, none⟩ = some (.int .i64 (x j).ki) ∧ W.cell? ⟨g, off + j * 6 + 2, none⟩ = some (.int .i64 (x j).sq)) ∧ W.cell? ⟨g, off + j * 6 + 3, none⟩ = some (.string (x j).ke) ∧ W.cell? ⟨g, off + j * 6 + 4, none⟩ = some (.int .i64 (x j).tm) ∧ W.cell? ⟨g, off + j * 6 + 5, none⟩ = some (.int .i64 (x j).va)) := hide fun j hj => by
    rw [hx]; exact sent_W ha j hj
  have SB : Hid (∀ j, j < L.length → ∃ g off, bo = some ⟨g, off, none⟩ ∧ ∀ W, Calm w W → (W.cell? ⟨g, off + j * 6, none⟩ = some (.int .i64 (x j).wk) ∧ W.cell? ⟨g, off + j * 6 + 1, none⟩ = some (.int .i64 (x j).ki) ∧ W.cell? ⟨g, off + j * 6 + 2, none⟩ = some (.int .i64 (x j).sq)) ∧ W.cell? ⟨g, off + j * 6 + 3, none⟩ = some (.string (x j).ke) ∧ W.cell? ⟨g, off + j * 6 + 4, none⟩ = some (.int .i64 (x j).tm) ∧ W.cell? ⟨g, off + j * 6 + 5, none⟩ = some (.int .i64 (x j).va)) := hide fun j hj => by
    rw [hx]; exact sent_W hb j hj
  clear ha hb hx
  generalize hn : L.length = n at *
  go_enter Tryz.func18, Tryz.ntmps18
  go_wp2_with fail
  go_loopw [5] (fun s5 wr => ∃ i : Nat, s5 = .int .i64 (i : Int) ∧ i ≤ n ∧ Calm w wr) (fun s5 _ => n - (intOf s5).toNat)
  case atStart => exact ⟨0, rfl, by omega, Touch.refl _ _⟩
  case round =>
    obtain ⟨i, rfl, hi, hC⟩ := hrel
    by_cases hlt : i < n
    · have hltz : (i : Int) < (n : Int) := by omega
      obtain ⟨ga, oa, rfl, ca⟩ := SA.out i hlt
      obtain ⟨gb, ob, rfl, cb⟩ := SB.out i hlt
      obtain ⟨⟨k0, k1, k2⟩, k3, k4, k5⟩ := ca wr hC
      obtain ⟨⟨l0, l1, l2⟩, l3, l4, l5⟩ := cb wr hC
      have zw : wrap64 ((i : Int) + 1) = ((i + 1 : Nat) : Int) := by unfold wrap64; omega
      have HC := hide hC
      generalize x i = y at *
      obtain ⟨y0, y1, y2, y3, y4, y5⟩ := y
      clear SA SB ca cb hC
      go_wp2_with fail
      go_quiet (fail)
      go_wp2_with fail
      go_roundw
      case rel => exact ⟨i + 1, by first | rw [zw] | go_num, by omega, HC.out.drewK _⟩
      case measure => first | (rw [zw]; simp [intOf]; omega) | (simp [intOf]; omega)
    · have hltz : ¬ (i : Int) < (n : Int) := by omega
      obtain rfl : i = n := by omega
      have HC := hide hC
      clear SA SB hC
      go_wp2_with fail
      go_ret
      exact ⟨rfl, HC.out⟩

end Go.Proofs.YtapnjofplilefaaGreat
