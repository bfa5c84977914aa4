/- Walks: leftList; puts. -/
import Derived.Test.YthhajlbnnffgnaaRefW
import Derived.Test.YthhajlbnnffgnaaLawReads
namespace Go.Proofs.Ythhajlbnnffgnaa
open Go.RowKit

set_option maxRecDepth 100000 in
set_option maxHeartbeats 400000 in
theorem leftList_true (g c : Nat) (ao : Option Addr) (xs : List Int) (cap : Nat) (w : World) (hm : Row w 2 .i64 (.slice (some ⟨g, 0, none⟩) (xs.length + 1) c) (xs ++ [771])) (hs : Seg w .i64 ao xs) (hb : xs.length ≤ 1048576) :
    Calls Try.prog 42 #[.slice (some ⟨g, 0, none⟩) xs.length c, .slice ao xs.length cap] w fun e w' => e = .returned (.bool true) ∧ ∃ n, w' = w.drewN n := by
  have hcap : xs.length + 1 ≤ c := by
    rcases hm.form with ⟨hv, _⟩ | ⟨g', cap', cur, hv, _, hc, _⟩
    · cases hv
    · injection hv with _ _ h3; rw [h3]; simpa using hc
  have hsl : ∀ W, (Instr.slice 34 (.slice (some ⟨g, 0, none⟩) xs.length c) none (some (.int .i64 ((xs.length : Int) + 1))) none).run Try.prog W = .ok (.slice (some ⟨g, 0, none⟩) (xs.length + 1) c) W := by
    intro W
    obtain ⟨i0, hi, hz0, hz1, hz2⟩ := info_parts Try.info2
    have he : Try.prog.elem 34 = 2 := by kernel_rfl
    rw [run_slice_h W 34 (some ⟨g, 0, none⟩) xs.length c (by rw [he]; exact Try.underlying34) .i64 ((xs.length : Int) + 1) (by omega) (by omega), he]
    have e : ((xs.length : Int) + 1).toNat = xs.length + 1 := by omega
    simp only [sizeOf, typeInfo, e]
    simp [hi, hz1, sliced, Addr.add_lit]
  have k1 : w.cell? ⟨g, xs.length, none⟩ = some (.int .i64 771) := by
    have := hm.cell xs.length (by simp)
    rw [this]; simp
  have SM := hide (sameList_any (some ⟨g, 0, none⟩) ao xs xs c cap w (Seg.of_row hm).prefix hs (by omega) (by omega))
  clear hm hs
  go_enter Try.func42, Try.ntmps42
  go_wp2_with fail
  refine SM.out.mono ?_
  rintro r w1 ⟨b, rfl, hbb, n, rfl⟩
  obtain rfl : b = true := hbb.2 (by first | rfl | trivial)
  clear hbb
  go_wp2
  go_ret
  exact ⟨rfl, n, rfl⟩

/-- A put as a value. -/
def putVal (kind : Int) (X : Nat) (s : ByteArray) (bo : Option Addr) (bn bc : Nat) (lo : Option Addr) (ln lc : Nat) : Value :=
  .agg #[.int .i64 kind, .int .u64 X, .string s, .slice bo bn bc, .slice lo ln lc]

/-- What a put leaves. -/
def PutEnd (w : World) (pb : Nat) (v : Value) (bs form : List Int) (r : Ending) (w' : World) : Prop :=
  ∃ a n c v', r = .returned (.tuple #[.slice a n c, .bool true]) ∧ n = form.length ∧ Seg w' .u8 a form ∧ Wr w' pb v' (bs ++ form) ∧ Wrote w pb v w' v'

theorem PutEnd.mk {w w' : World} {pb : Nat} {v v' : Value} {bs form : List Int} {a : Option Addr} {n c : Nat} (hr : Row w' 5 .u8 (.slice a n c) form) (hw : Wr w' pb v' (bs ++ form)) (ho : Wrote w pb v w' v') : PutEnd w pb v bs form (.returned (.tuple #[.slice a n c, .bool true])) w' :=
  ⟨a, n, c, v', rfl, hr.len, Seg.of_row hr, hw, ho⟩

/-- The row that a call of the document's makes stays while the writer is written to. -/
theorem row_beside {w w1 w2 : World} {pb : Nat} {v v2 v1 : Value} {xs bs : List Int} (hr : Row w1 5 .u8 v1 xs) (hg : Grew w (.slice none 0 0) w1 v1) (hw : Wr w pb v bs) (ho : Wrote w1 pb v w2 v2) : Row w2 5 .u8 v1 xs := by
  refine hr.touch ho.touch (fun g hg2 e => ?_)
  have hnew : w.heap.size ≤ g := by
    rcases hg.fresh with e2 | ⟨j, e2, hj⟩
    · rw [hg2] at e2; cases e2
    · rw [hg2] at e2; injection e2 with e2; omega
  rcases e with e | e
  · have := hw.lt; omega
  · have := hw.row.lt e; omega

theorem Wr.drew {w : World} {pb : Nat} {v : Value} {bs : List Int} (h : Wr w pb v bs) : Wr w.drew pb v bs := h.touch ((Touch.refl (fun _ => False) w).drew) (fun h => h) (fun _ _ h => h)

theorem wrote_chain {w w1 w2 : World} {pb : Nat} {v v1 v2 : Value} {o : Obj} (hg : Grew (w.alloc o).drew (.slice none 0 0) w1 v1) (ho : Wrote w1 pb v w2 v2) : Wrote w pb v w2 v2 :=
  Wrote.of_touch ((((Touch.refl (fun _ => False) w).alloc o).drew).trans (nil_touch hg) (fun _ _ h => h)) ho

end Go.Proofs.Ythhajlbnnffgnaa
