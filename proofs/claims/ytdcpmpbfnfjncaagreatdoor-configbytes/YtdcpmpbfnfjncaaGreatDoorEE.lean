/- A job out of bytes (the program's readNumbers, Read). -/
import Derived.Test.YtdcpmpbfnfjncaaGreatDoorEC
import Derived.Test.YtdcpmpbfnfjncaaGreatDoorEM
import Derived.Test.YtdcpmpbfnfjncaaGreatDoorCC0
import Derived.Lib.MinMax
namespace Go.Proofs.YtdcpmpbfnfjncaaGreatDoor
open Go.RowKit

/-- Numbers of which one is another. -/
def stF (f : Nat → Int) (i : Nat) (x : Int) : Nat → Int := fun k => if k = i then x else f k
theorem f10c_st (f : Nat → Int) (i : Nat) (x : Int) (hi : i < 10) : (f10c f).setIfInBounds i (.int .i64 x) = f10c (stF f i x) := by
  rcases (by omega : i = 0 ∨ i = 1 ∨ i = 2 ∨ i = 3 ∨ i = 4 ∨ i = 5 ∨ i = 6 ∨ i = 7 ∨ i = 8 ∨ i = 9) with rfl | rfl | rfl | rfl | rfl | rfl | rfl | rfl | rfl | rfl <;> rfl
/-- The first i numbers that bytes hold, and the place behind them. -/
def pgS (b : List Int) : Nat → Option ((Nat → Int) × Nat)
  | 0 => some (fun _ => 0, 0)
  | i + 1 => match pgS b i with
    | none => none
    | some (f, p) => if (scan (b.drop p)).2.2 = 0 ∧ (scan (b.drop p)).1 ≤ 9223372036854775807 then some (stF f i (scan (b.drop p)).1, p + (scan (b.drop p)).2.1) else none
theorem pgS_none {b : List Int} {i : Nat} (h : pgS b i = none) : ∀ k, pgS b (i + k) = none
  | 0 => h
  | k + 1 => by rw [← Nat.add_assoc, pgS, pgS_none h k]
def f0 : Nat → Int := fun _ => 0
abbrev z10 : Array Value := #[.int .i64 0, .int .i64 0, .int .i64 0, .int .i64 0, .int .i64 0, .int .i64 0, .int .i64 0, .int .i64 0, .int .i64 0, .int .i64 0]
theorem row_touch {S : Nat → Prop} {w0 w : World} (h : Touch S w0 w) {b : Nat} (hb : b < w0.heap.size → S b) (cs : Array Value) : Touch S w0 (w.setRow b cs) :=
  ⟨h.os, h.tape, h.output, by rw [size_setRow]; exact h.size, fun k hk hn => by rw [setRow_other _ _ _ _ (fun e => hn (by subst e; exact hb hk))]; exact h.block k hk hn⟩
/-- What readNumbers answers. -/
def RetN (w : World) (rb : Nat) (ao : Option Addr) (cap : Nat) (bs : List Int) (e : Ending) (w' : World) : Prop :=
  (∃ f p, pgS bs 10 = some (f, p) ∧ e = .returned (.agg (f10c f)) ∧ Rd w' rb ao cap bs p ∧ Touch (fun k => k = rb) w w') ∨ (pgS bs 10 = none ∧ e = .returned (.agg (f10c f0)) ∧ Touch (fun k => k = rb) w w')

set_option maxRecDepth 100000 in
set_option maxHeartbeats 1000000 in
theorem readNumbers_any (rb : Nat) (ao : Option Addr) (cap : Nat) (bs : List Int) (w : World) (h : Rd w rb ao cap bs 0) (h8 : In8 bs) (hb : bs.length ≤ 140737488351232) :
    Calls Tryz.prog 31 #[.pointer (some ⟨rb, 0, none⟩)] w fun e w' => RetN w rb ao cap bs e w' := by
  have CN : Hid (∀ (p x n e : Nat) (W : World), Rd W rb ao cap bs p → scan (bs.drop p) = (x, n, e) → Calls Tryz.prog 49 #[.pointer (some ⟨rb, 0, none⟩)] W fun r w' => r = .returned (.tuple #[.int .u64 x, .int .i64 e]) ∧ Rd w' rb ao cap bs (p + n) ∧ Touch (fun k => k = rb) W w') := hide fun p x n e W hR hs => number_eq rb ao cap bs p x n e W hR h8 hb hs
  have LT : Hid (∀ p, (scan (bs.drop p)).1 < 18446744073709551616) := hide fun p => scan_lt (h8.drop p)
  have HE1 : Hid (∀ f p e w', pgS bs 10 = some (f, p) → e = .returned (.agg (f10c f)) → Rd w' rb ao cap bs p → Touch (fun k => k = rb) w w' → RetN w rb ao cap bs e w') := hide fun f p e w' a b c d => .inl ⟨f, p, a, b, c, d⟩
  have HE2 : Hid (∀ i e w', i ≤ 10 → pgS bs i = none → e = .returned (.agg (f10c f0)) → Touch (fun k => k = rb) w w' → RetN w rb ao cap bs e w') := hide fun i e w' hi a b c => .inr ⟨by have := pgS_none a (10 - i); rwa [show i + (10 - i) = 10 by omega] at this, b, c⟩
  have NX : Hid (∀ i f p, pgS bs i = some (f, p) → pgS bs (i + 1) = if (scan (bs.drop p)).2.2 = 0 ∧ (scan (bs.drop p)).1 ≤ 9223372036854775807 then some (stF f i (scan (bs.drop p)).1, p + (scan (bs.drop p)).2.1) else none) := hide fun i f p h => by rw [pgS, h]
  obtain ⟨Z, hZ⟩ : ∃ Z : Array Value, Z = z10 := ⟨_, rfl⟩
  have zs : Hid (z10.size = Z.size) := hide (by rw [hZ])
  have za : Hid (Z.all (·.oneCell') = true) := hide (by rw [hZ]; kernel_rfl)
  have zi : Hid ((Tryz.prog.info? 49).map (·.size) = some Z.size) := hide (by rw [hZ]; kernel_rfl)
  have HZ := hide hZ
  clear hZ
  have A1 := al_new w (.cells z10 49)
  have A2 := al_new (w.alloc (.cells z10 49)) (.cells z10 49)
  rw [al_size] at A2
  replace A1 := hide (al_old A1 (.cells z10 49))
  replace A2 := hide A2
  have T0 := hide (((Touch.refl (fun k => k = rb) w).alloc (.cells z10 49)).alloc (.cells z10 49))
  have hrb := h.lt
  have R0 : Hid (Rd ((w.alloc (.cells z10 49)).alloc (.cells z10 49)) rb ao cap bs 0) := hide (h.touch (((Touch.refl (fun _ => False) w).alloc _).alloc _) (fun h => h) (fun _ _ h => h))
  clear h h8 hb
  go_enter Tryz.func31, Tryz.ntmps31
  go_wp2_with fail
  generalize hw0 : (w.alloc (.cells z10 49)).alloc (.cells z10 49) = w0 at *
  generalize hA : w.heap.size = A at *
  clear hw0
  go_loopw [7] (fun s wr => ∃ (i : Nat) (f : Nat → Int) (p : Nat), s = .int .i64 (i : Int) ∧ i ≤ 10 ∧ pgS bs i = some (f, p) ∧ Rd wr rb ao cap bs p ∧ wr.heap[A]? = some (.cells z10 49 (0, 0)) ∧ wr.heap[A + 1]? = some (.cells (f10c f) 49 (0, 0)) ∧ Touch (fun k => k = rb) w wr) (fun s _ => 10 - (intOf s).toNat)
  case atStart => exact ⟨0, f0, 0, rfl, by omega, rfl, R0.out, A1.out, A2.out, T0.out⟩
  case round =>
    obtain ⟨i, f, p, rfl, hi, hS, RR, B1, B2, TL⟩ := hrel
    have hAw : A ≤ wr.heap.size := by rw [← hA]; exact TL.size
    by_cases hlt : i < 10
    · have hltz : (i : Int) < 10 := by omega
      have nx := NX.out i f p hS
      have lt := LT.out p
      have CC := CN.out p (scan (bs.drop p)).1 (scan (bs.drop p)).2.1 (scan (bs.drop p)).2.2 wr RR rfl
      generalize (scan (bs.drop p)).1 = x at *
      generalize (scan (bs.drop p)).2.1 = n at *
      generalize (scan (bs.drop p)).2.2 = er at *
      have HCC := hide CC
      have HB1 := hide B1
      have HB2 := hide B2
      have HTL := hide TL
      clear CC hS RR B1 B2 TL CN LT NX
      go_wp2_with fail
      refine HCC.out.mono ?_
      rintro r w1 ⟨rfl, R1, T1⟩
      have T1' : Hid (Touch (fun k => k = rb) w w1) := hide (HTL.out.trans T1 fun _ _ h => h)
      have C1 := (T1.block A (lt_of_heap HB1.out) (by omega)).trans HB1.out
      have C2 := (T1.block (A + 1) (lt_of_heap HB2.out) (by omega)).trans HB2.out
      have HR1 := hide R1
      clear R1 T1 HCC HB1 HB2 HTL
      by_cases he : er = 0
      · subst he
        by_cases hx : x ≤ 9223372036854775807
        · have hxz : ¬ (9223372036854775807 : Int) < (x : Int) := by omega
          have NX2 : Hid (pgS bs (i + 1) = some (stF f i (x : Int), p + n)) := hide (by rw [nx, if_pos ⟨rfl, hx⟩])
          have c2 := f10_cells C2 i hlt
          have y2 := wn_frozen C2 i
          have D2 := heap_setCell_row (i := i) C2 (.int .i64 (x : Int))
          rw [f10c_st f i x hlt] at D2
          have tt := (Touch.refl (fun k => k = A + 1) w1).setCell (p := ⟨A + 1, i, none⟩) (fun _ => rfl) (.int .i64 (x : Int))
          have D1 := hide ((tt.block A (lt_of_heap C1) (by omega)).trans C1)
          have HD2 := hide D2
          have HD3 : Hid (Rd (w1.setCell ⟨A + 1, i, none⟩ (.int .i64 (x : Int))) rb ao cap bs (p + n)) := hide (HR1.out.touch tt (by omega) (fun g hg e => by
            obtain ⟨cur, hc⟩ := HR1.out.row.block hg
            subst e
            rw [C2] at hc
            injection hc with hc
            injection hc with _ hc
            exact absurd hc (by decide)))
          have HT2 : Hid (Touch (fun k => k = rb) w (w1.setCell ⟨A + 1, i, none⟩ (.int .i64 (x : Int)))) := hide (T1'.out.trans tt fun k hk e => by omega)
          have wx : wrap64 (x : Int) = (x : Int) := wr_in _ (by omega)
          clear C1 C2 D2 tt nx HR1 T1' hx
          go_wp2_with fail
          go_roundw
          case rel => exact ⟨i + 1, _, p + n, by go_num, by omega, NX2.out, HD3.out, D1.out, HD2.out, HT2.out⟩
          case measure => simp [intOf]; omega
        · have hxz : (9223372036854775807 : Int) < (x : Int) := by omega
          have NX2 : Hid (pgS bs (i + 1) = none) := hide (by rw [nx, if_neg (fun h => hx h.2)])
          have HC1 := hide C1
          have HF : Hid (RetN w rb ao cap bs (.returned (.agg (f10c f0))) (w1.setRow A Z)) := hide (HE2.out (i + 1) _ _ (by omega) NX2.out rfl (row_touch T1'.out (by omega) _))
          clear C1 C2 HR1 T1'
          go_wp2_with (first | refine wpList_built rfl 49 _ rfl Z (by rw [HZ.out]; kernel_rfl) ?_ | (refine wpList_store_whole rfl rfl 49 (.tmp 2) (.tmp 21) rfl A Z ?_ ?_ 49 z10 ?_ zi.out zs.out za.out ?_; rfl; rfl; exact HC1.out))
          refine bodyPost_ret (results_cell_row rfl _ _ _ _ _ _ _ rfl (setRow_heap _ _ _ _ _ _ HC1.out) Tryz.underlying49 rfl zi.out) rfl ?_
          rw [HZ.out] at *
          exact HF.out
      · have NX2 : Hid (pgS bs (i + 1) = none) := hide (by rw [nx, if_neg (fun h => he h.1)])
        have hez : ¬ ((er : Nat) : Int) = 0 := by omega
        clear he nx
        generalize ((er : Nat) : Int) = z at *
        have dz : (z == 0) = false := by simp [hez]
        have HC1 := hide C1
        have HF : Hid (RetN w rb ao cap bs (.returned (.agg (f10c f0))) (w1.setRow A Z)) := hide (HE2.out (i + 1) _ _ (by omega) NX2.out rfl (row_touch T1'.out (by omega) _))
        clear C1 C2 HR1 T1'
        go_wp2_with (first | refine wpList_built rfl 49 _ rfl Z (by rw [HZ.out]; kernel_rfl) ?_ | (refine wpList_store_whole rfl rfl 49 (.tmp 2) (.tmp 21) rfl A Z ?_ ?_ 49 z10 ?_ zi.out zs.out za.out ?_; rfl; rfl; exact HC1.out))
        refine bodyPost_ret (results_cell_row rfl _ _ _ _ _ _ _ rfl (setRow_heap _ _ _ _ _ _ HC1.out) Tryz.underlying49 rfl zi.out) rfl ?_
        rw [HZ.out] at *
        exact HF.out
    · have hltz : ¬ (i : Int) < 10 := by omega
      obtain rfl : i = 10 := by omega
      have HB1 := hide B1
      obtain ⟨FF, hFF⟩ : ∃ FF : Array Value, FF = f10c f := ⟨_, rfl⟩
      have fs : Hid (z10.size = FF.size) := hide (by rw [hFF]; rfl)
      have fa : Hid (FF.all (·.oneCell') = true) := hide (by rw [hFF]; kernel_rfl)
      have fi : Hid ((Tryz.prog.info? 49).map (·.size) = some FF.size) := hide (by rw [hFF]; kernel_rfl)
      have HF : Hid (RetN w rb ao cap bs (.returned (.agg FF)) (wr.setRow A FF)) := hide (HE1.out f p _ _ hS (by rw [hFF]) (RR.touch (row_touch (S := fun k => k = A) (Touch.refl _ wr) (fun _ => rfl) FF) (by omega) (fun g hg e => by
        obtain ⟨cur, hc⟩ := RR.row.block hg
        subst e
        rw [B1] at hc
        injection hc with hc
        injection hc with _ hc
        exact absurd hc (by decide))) (row_touch TL (by omega) _))
      rw [← hFF] at B2
      have HB2 := hide B2
      clear B1 B2 RR TL hS hFF
      go_wp2_with (first | (refine wpList_load_row rfl 49 (.tmp 3) rfl (A + 1) ?_ 49 FF (0, 0) _ ?_ Tryz.underlying49 rfl fi.out ?_; rfl; exact HB2.out) | (refine wpList_store_whole rfl rfl 49 (.tmp 2) (.tmp 27) rfl A FF ?_ ?_ 49 z10 ?_ fi.out fs.out fa.out ?_; rfl; rfl; exact HB1.out))
      refine bodyPost_ret (results_cell_row rfl _ _ _ _ _ _ _ rfl (setRow_heap _ _ _ _ _ _ HB1.out) Tryz.underlying49 rfl fi.out) rfl ?_
      exact HF.out

end Go.Proofs.YtdcpmpbfnfjncaaGreatDoor
