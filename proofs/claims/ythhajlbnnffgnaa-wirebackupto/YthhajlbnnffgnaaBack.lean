/- Walks: back, kind by kind. -/
import Derived.Test.YthhajlbnnffgnaaBackM
namespace Go.Proofs.Ythhajlbnnffgnaa
open Go.RowKit

/-- What a reading back leaves. -/
def BackEnd (w : World) (rb : Nat) (ao : Option Addr) (cap : Nat) (bs : List Int) (q : Nat) (r : Ending) (w' : World) : Prop :=
  r = .returned (.bool true) ∧ Rd w' rb ao cap bs q ∧ Touch (fun k => k = rb) w w'

theorem Rd.box {w : World} {rb : Nat} {ao : Option Addr} {cap : Nat} {bs : List Int} {p : Nat} (h : Rd w rb ao cap bs p) (o : Obj) : Rd (w.alloc o) rb ao cap bs p := h.touch ((Touch.refl (fun _ => False) w).alloc o) (fun h => h) (fun _ _ h => h)

theorem off_alloc {w w' : World} {rb : Nat} {o : Obj} (h : Touch (fun k => k = rb) (w.alloc o) w') : Touch (fun k => k = rb) w w' := ((Touch.refl (fun k => k = rb) w).alloc o).trans h (fun _ _ h => h)

set_option maxRecDepth 100000 in
set_option maxHeartbeats 1000000 in
theorem back_number (rb : Nat) (ao : Option Addr) (cap : Nat) (bs : List Int) (p X : Nat) (s : ByteArray) (bo lo : Option Addr) (bn bc ln lc : Nat) (r : List Int) (w : World) (h : Rd w rb ao cap bs p) (h8 : In8 bs) (hb : bs.length ≤ 140737488351232) (hX : X < 18446744073709551616) (hd : bs.drop p = numb X ++ r) :
    Calls Try.prog 22 #[.pointer (some ⟨rb, 0, none⟩), putVal 2 X s bo bn bc lo ln lc] w (BackEnd w rb ao cap bs (p + (numb X).length)) := by
  have hs := scan_numb hX r
  rw [← hd] at hs
  have hlt := h.lt
  have c0 : (w.alloc (.cells #[.int .i64 2, .int .u64 X, .string s, .slice bo bn bc, .slice lo ln lc] 36)).cell? ⟨w.heap.size, 1, none⟩ = some (.int .u64 X) := by simp
  have NK := hide (number_eq rb ao cap bs p X (numb X).length 0 _ (h.box (.cells #[.int .i64 2, .int .u64 X, .string s, .slice bo bn bc, .slice lo ln lc] 36)) h8 hb hs)
  clear hs hd h8
  unfold putVal
  go_enter Try.func22, Try.ntmps22
  go_wp2_with fail
  refine NK.out.mono ?_
  rintro e w1 ⟨rfl, hr1, ht1⟩
  have c1 := (ht1.cell (p := ⟨w.heap.size, 1, none⟩) (lt_of_cell c0) (by show ¬ w.heap.size = rb; omega)).trans c0
  clear c0
  go_wp2_with (go_at_call 24; refine (num_any _ _).mono ?_; rintro e w' ⟨rfl, rfl⟩)
  go_ret
  exact ⟨by simp, hr1, off_alloc ht1⟩

set_option maxRecDepth 100000 in
set_option maxHeartbeats 1000000 in
theorem back_signed (rb : Nat) (ao : Option Addr) (cap : Nat) (bs : List Int) (p X : Nat) (s : ByteArray) (bo lo : Option Addr) (bn bc ln lc : Nat) (r : List Int) (w : World) (h : Rd w rb ao cap bs p) (h8 : In8 bs) (hb : bs.length ≤ 140737488351232) (hd : bs.drop p = numb (Lib.zigzag (IntKind.i64.wrap X)) ++ r) :
    Calls Try.prog 22 #[.pointer (some ⟨rb, 0, none⟩), putVal 3 X s bo bn bc lo ln lc] w (BackEnd w rb ao cap bs (p + (numb (Lib.zigzag (IntKind.i64.wrap X))).length)) := by
  have hs := scan_numb (wrap_zig X) r
  rw [← hd] at hs
  have hlt := h.lt
  have c0 : (w.alloc (.cells #[.int .i64 3, .int .u64 X, .string s, .slice bo bn bc, .slice lo ln lc] 36)).cell? ⟨w.heap.size, 1, none⟩ = some (.int .u64 X) := by simp
  have NK := signed_ok rb ao cap bs p (Lib.zigzag (IntKind.i64.wrap X)) (numb (Lib.zigzag (IntKind.i64.wrap X))).length _ (h.box (.cells #[.int .i64 3, .int .u64 X, .string s, .slice bo bn bc, .slice lo ln lc] 36)) h8 hb hs
  rw [unz_zigzag] at NK
  have NK := hide NK
  clear hs hd h8
  unfold putVal
  go_enter Try.func22, Try.ntmps22
  go_wp2_with fail
  refine NK.out.mono ?_
  rintro e w1 ⟨rfl, hr1, ht1⟩
  have c1 := (ht1.cell (p := ⟨w.heap.size, 1, none⟩) (lt_of_cell c0) (by show ¬ w.heap.size = rb; omega)).trans c0
  clear c0
  go_wp2_with (go_at_call 24; refine (num_any _ _).mono ?_; rintro e w' ⟨rfl, rfl⟩)
  go_ret
  exact ⟨by simp, hr1, off_alloc ht1⟩

set_option maxRecDepth 100000 in
set_option maxHeartbeats 1000000 in
theorem back_fixed (rb : Nat) (ao : Option Addr) (cap : Nat) (bs : List Int) (p X : Nat) (s : ByteArray) (bo lo : Option Addr) (bn bc ln lc : Nat) (r : List Int) (w : World) (h : Rd w rb ao cap bs p) (h8 : In8 bs) (hb : bs.length ≤ 140737488351232) (hd : bs.drop p = fixb (X % 4294967296) ++ r) :
    Calls Try.prog 22 #[.pointer (some ⟨rb, 0, none⟩), putVal 5 X s bo bn bc lo ln lc] w (BackEnd w rb ao cap bs (p + (fixb (X % 4294967296)).length)) := by
  have hlt := h.lt
  have c0 : (w.alloc (.cells #[.int .i64 5, .int .u64 X, .string s, .slice bo bn bc, .slice lo ln lc] 36)).cell? ⟨w.heap.size, 1, none⟩ = some (.int .u64 X) := by simp
  have NK := fixed_yes rb ao cap bs p _ _ _ _ _ (h.box (.cells #[.int .i64 5, .int .u64 X, .string s, .slice bo bn bc, .slice lo ln lc] 36)) h8 hb (by rw [hd]; rfl)
  rw [fixb_back] at NK
  have NK := hide NK
  have hwr : IntKind.u32.wrap (X : Int) = ((X % 4294967296 : Nat) : Int) := by rw [IntKind.wrap_u32]; omega
  clear hd h8
  unfold putVal
  go_enter Try.func22, Try.ntmps22
  go_wp2_with fail
  refine NK.out.mono ?_
  rintro e w1 ⟨rfl, hr1, ht1⟩
  have c1 := (ht1.cell (p := ⟨w.heap.size, 1, none⟩) (lt_of_cell c0) (by show ¬ w.heap.size = rb; omega)).trans c0
  clear c0
  go_wp2_with (go_at_call 24; refine (num_any _ _).mono ?_; rintro e w' ⟨rfl, rfl⟩)
  go_ret
  exact ⟨by simp, hr1, off_alloc ht1⟩

set_option maxRecDepth 100000 in
set_option maxHeartbeats 1000000 in
theorem back_text (rb : Nat) (ao : Option Addr) (cap : Nat) (bs : List Int) (p X : Nat) (s : ByteArray) (bo lo : Option Addr) (bn bc ln lc : Nat) (r : List Int) (w : World) (h : Rd w rb ao cap bs p) (h8 : In8 bs) (hb : bs.length ≤ 140737488351232) (hsz : s.size ≤ 1048576) (hd : bs.drop p = (numb s.size ++ bytesOf s) ++ r) :
    Calls Try.prog 22 #[.pointer (some ⟨rb, 0, none⟩), putVal 4 X s bo bn bc lo ln lc] w (BackEnd w rb ao cap bs (p + (numb s.size ++ bytesOf s).length)) := by
  have hs := scan_numb (x := s.size) (by omega) (bytesOf s ++ r)
  rw [List.append_assoc] at hd
  rw [← hd] at hs
  have hd2 : bs.drop (p + (numb s.size).length) = bytesOf s ++ r := by rw [← List.drop_drop, hd, List.drop_left]
  have hl2 : s.size ≤ bs.length - (p + (numb s.size).length) := by
    have := congrArg List.length hd2
    rw [List.length_drop, List.length_append, bytesOf_length] at this
    omega
  have hlt := h.lt
  have c0 : (w.alloc (.cells #[.int .i64 4, .int .u64 X, .string s, .slice bo bn bc, .slice lo ln lc] 36)).cell? ⟨w.heap.size, 2, none⟩ = some (.string s) := by simp
  have NK := text_ok rb ao cap bs p s.size (numb s.size).length s.size _ (h.box (.cells #[.int .i64 4, .int .u64 X, .string s, .slice bo bn bc, .slice lo ln lc] 36)) h8 hb hs (by omega) (Nat.le_refl _) hl2
  rw [hd2, ← bytesOf_length s, List.take_left, str_bytesOf, bytesOf_length s] at NK
  have NK := hide NK
  rw [List.length_append, bytesOf_length, ← Nat.add_assoc]
  clear hs hd hd2 hl2 h8
  unfold putVal
  go_enter Try.func22, Try.ntmps22
  go_wp2_with fail
  refine NK.out.mono ?_
  rintro e w1 ⟨rfl, hr1, ht1⟩
  have c1 := (ht1.cell (p := ⟨w.heap.size, 2, none⟩) (lt_of_cell c0) (by show ¬ w.heap.size = rb; omega)).trans c0
  clear c0
  go_wp2_with (go_at_call 24; refine (num_any _ _).mono ?_; rintro e w' ⟨rfl, rfl⟩)
  go_ret
  exact ⟨by simp, hr1, off_alloc ht1⟩

/-- Memory that is handed in lies apart from the reader. -/
def Away (rb : Nat) (ao : Option Addr) (xs : List Int) : Prop := ∀ a, ao = some a → xs ≠ [] → a.block ≠ rb

set_option maxRecDepth 100000 in
set_option maxHeartbeats 1000000 in
theorem back_bytes (rb : Nat) (ao : Option Addr) (cap : Nat) (bs : List Int) (p X : Nat) (s : ByteArray) (bo lo : Option Addr) (B : List Int) (bc ln lc : Nat) (r : List Int) (w : World) (h : Rd w rb ao cap bs p) (hb : bs.length ≤ 140737488351232) (hB : Seg w .u8 bo B) (hB8 : In8 B) (haw : Away rb bo B) (hd : bs.drop p = B ++ r) :
    Calls Try.prog 22 #[.pointer (some ⟨rb, 0, none⟩), putVal 1 X s bo B.length bc lo ln lc] w (BackEnd w rb ao cap bs (p + B.length)) := by
  have hlt := h.lt
  have hl : B.length ≤ bs.length - p := by
    have := congrArg List.length hd
    rw [List.length_drop, List.length_append] at this
    omega
  have c0 : (w.alloc (.cells #[.int .i64 1, .int .u64 X, .string s, .slice bo B.length bc, .slice lo ln lc] 36)).cell? ⟨w.heap.size, 3, none⟩ = some (.slice bo B.length bc) := by simp
  have NK := raw_yes rb ao cap bs p B.length _ (h.box (.cells #[.int .i64 1, .int .u64 X, .string s, .slice bo B.length bc, .slice lo ln lc] 36)) hb hl
  rw [hd, List.take_left] at NK
  have NK := hide NK
  have HB := hide (hB.alloc (.cells #[.int .i64 1, .int .u64 X, .string s, .slice bo B.length bc, .slice lo ln lc] 36))
  clear hd hl hB
  unfold putVal
  go_enter Try.func22, Try.ntmps22
  go_wp2_with fail
  refine NK.out.mono ?_
  rintro e w1 ⟨g, k, c, rfl, hg, hrow, hr1, ht1⟩
  obtain rfl := hrow.len
  have c1 := (ht1.cell (p := ⟨w.heap.size, 3, none⟩) (lt_of_cell c0) (by show ¬ w.heap.size = rb; omega)).trans c0
  have SM := hide (same_any (some ⟨g, 0, none⟩) bo B B c bc w1 (Seg.of_row hrow) (HB.out.touch1 ht1 (fun a e hne hS => haw a e hne hS)) hB8 hB8)
  have HR := hide hr1
  have HT := hide ht1
  clear c0 hrow hr1 ht1 NK HB
  go_wp2_with (go_at_call 24; refine (num_any _ _).mono ?_; rintro e w' ⟨rfl, rfl⟩)
  refine SM.out.mono ?_
  rintro e w2 ⟨bb, rfl, hbb, hq⟩
  obtain rfl := hq.symm
  obtain rfl : bb = true := hbb.2 (by first | rfl | trivial)
  clear hbb
  go_wp2
  go_ret
  exact ⟨rfl, HR.out, off_alloc HT.out⟩

set_option maxRecDepth 100000 in
set_option maxHeartbeats 1000000 in
theorem back_rises (rb : Nat) (ao : Option Addr) (cap : Nat) (bs : List Int) (p X : Nat) (s : ByteArray) (bo lo : Option Addr) (L : List Int) (bn bc lc : Nat) (r : List Int) (w : World) (h : Rd w rb ao cap bs p) (h8 : In8 bs) (hb : bs.length ≤ 140737488351232) (hL : Seg w .i64 lo L) (hL64 : In64 L) (hLl : L.length ≤ 1048576) (hup : Up L) (haw : Away rb lo L) (hd : bs.drop p = risb L ++ r) :
    Calls Try.prog 22 #[.pointer (some ⟨rb, 0, none⟩), putVal 6 X s bo bn bc lo L.length lc] w (BackEnd w rb ao cap bs (p + (risb L).length)) := by
  have hlt := h.lt
  unfold risb at hd ⊢
  rw [List.append_assoc] at hd
  have hs := scan_numb (x := L.length) (by omega) (risTo L L.length ++ r)
  rw [← hd] at hs
  have hd2 : bs.drop (p + (numb L.length).length) = risTo L L.length ++ r := by rw [← List.drop_drop, hd, List.drop_left]
  have hcl := climb_back hL64 hup hd2 L.length (Nat.le_refl _)
  rw [List.take_length] at hcl
  have c0 : (w.alloc (.cells #[.int .i64 6, .int .u64 X, .string s, .slice bo bn bc, .slice lo L.length lc] 36)).cell? ⟨w.heap.size, 4, none⟩ = some (.slice lo L.length lc) := by simp
  have NK := hide (rising_any rb ao cap bs p L.length (numb L.length).length L.length _ (h.box (.cells #[.int .i64 6, .int .u64 X, .string s, .slice bo bn bc, .slice lo L.length lc] 36)) h8 hb (.inl (by omega)) hs (by omega) (Nat.le_refl _))
  have HB := hide (hL.alloc (.cells #[.int .i64 6, .int .u64 X, .string s, .slice bo bn bc, .slice lo L.length lc] 36))
  have HC := hide hcl
  rw [List.length_append, ← Nat.add_assoc]
  clear hd hs hd2 hcl hL h8
  unfold putVal
  go_enter Try.func22, Try.ntmps22
  go_wp2_with fail
  refine NK.out.mono ?_
  rintro e w1 (⟨hne, _⟩ | ⟨l, q, g, m, c, hc, rfl, hg, hrow, hr1, ht1⟩)
  · rw [HC.out] at hne; exact absurd rfl hne
  rw [HC.out] at hc
  simp only [Prod.mk.injEq] at hc
  obtain ⟨rfl, rfl, _⟩ := hc
  obtain rfl := hrow.len
  have c1 := (ht1.cell (p := ⟨w.heap.size, 4, none⟩) (lt_of_cell c0) (by show ¬ w.heap.size = rb; omega)).trans c0
  have SM := hide (sameList_any (some ⟨g, 0, none⟩) lo L L c lc w1 (Seg.of_row hrow) (HB.out.touch1 ht1 (fun a e hne hS => haw a e hne hS)) (by omega) (by omega))
  have HR := hide hr1
  have HT := hide ht1
  clear c0 hrow hr1 ht1 NK HB
  go_wp2_with (go_at_call 24; refine (num_any _ _).mono ?_; rintro e w' ⟨rfl, rfl⟩)
  refine SM.out.mono ?_
  rintro e w2 ⟨bb, rfl, hbb, nq, rfl⟩
  obtain rfl : bb = true := hbb.2 (by first | rfl | trivial)
  clear hbb
  go_wp2
  go_ret
  exact ⟨rfl, HR.out.drewN _, (off_alloc HT.out).drewN _⟩

/-- What was put is read back. -/
theorem back_any (rb : Nat) (ao : Option Addr) (cap : Nat) (bs : List Int) (p : Nat) (d : PutD) (r : List Int) (w : World) (h : Rd w rb ao cap bs p) (h8 : In8 bs) (hb : bs.length ≤ 140737488351232) (hok : d.Ok w) (ha1 : Away rb d.bo d.B) (ha2 : Away rb d.lo d.L) (hne : d.form ≠ []) (hd : bs.drop p = d.form ++ r) :
    Calls Try.prog 22 #[.pointer (some ⟨rb, 0, none⟩), putVal d.kind d.X d.s d.bo d.B.length d.bc d.lo d.L.length d.lc] w (BackEnd w rb ao cap bs (p + d.form.length)) := by
  obtain ⟨kind, X, s, bo, B, bc, lo, L, lc⟩ := d
  obtain ⟨hX, hs, hB, hB8, hBl, hL, hL64, hLl⟩ := hok
  dsimp only at *
  unfold PutD.form putForm at hne hd ⊢
  dsimp only at *
  by_cases k1 : kind = 1
  · subst k1
    simp only [if_true] at hd ⊢
    exact back_bytes rb ao cap bs p X s bo lo B bc L.length lc r w h hb hB hB8 ha1 hd
  by_cases k2 : kind = 2
  · subst k2
    simp at hd ⊢
    exact back_number rb ao cap bs p X s bo lo B.length bc L.length lc r w h h8 hb hX hd
  by_cases k3 : kind = 3
  · subst k3
    simp at hd ⊢
    exact back_signed rb ao cap bs p X s bo lo B.length bc L.length lc r w h h8 hb hd
  by_cases k4 : kind = 4
  · subst k4
    simp only [k1, k2, k3, if_true, if_false] at hd ⊢
    exact back_text rb ao cap bs p X s bo lo B.length bc L.length lc r w h h8 hb hs hd
  by_cases k5 : kind = 5
  · subst k5
    simp only [k1, k2, k3, k4, if_true, if_false] at hd ⊢
    exact back_fixed rb ao cap bs p X s bo lo B.length bc L.length lc r w h h8 hb hd
  by_cases k6 : kind = 6
  · subst k6
    by_cases hup : Up L
    · simp only [k1, k2, k3, k4, k5, hup, if_true, if_false] at hd ⊢
      exact back_rises rb ao cap bs p X s bo lo L B.length bc lc r w h h8 hb hL hL64 hLl hup ha2 hd
    · exact absurd (by simp [hup]) hne
  · exact absurd (by simp [k1, k2, k3, k4, k5, k6]) hne

end Go.Proofs.Ythhajlbnnffgnaa
