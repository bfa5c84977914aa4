/- The program's Each; the verifier's walks. -/
import Derived.Test.YtfeifobljgmkkaaDoorFEach
import Derived.Test.YtfeifobljgmkkaaDoorFQuietR
import Derived.Test.YtfeifobljgmkkaaDoorFBlk
import Derived.Test.YtfeifobljgmkkaaDoorFLent
namespace Go.Proofs.YtfeifobljgmkkaaDoor
open Go.RowKit Crcx
attribute [local go_sem] Oper.semAt_some

set_option maxRecDepth 100000 in
theorem each_any (ao : Option Addr) (m c : Nat) (w : World) : Calls Tryd.prog 40 #[.slice ao m c] w fun e w' => e = .returned (.func (.func 52) #[] #[.pointer (some ⟨w.heap.size, 0, none⟩)]) ∧ w' = w.alloc (.cells #[.slice ao m c] 22) := by
  go_enter Tryd.func40, Tryd.ntmps40
  go_wp2_with fail
  go_ret
  exact ⟨rfl, rfl⟩

/-- What walks keeps in cells of its own. -/
structure Wk (w : World) (top B5 B6 B7 B8 B9 : Nat) (lv pv : Value) (leave : Int) (k : Nat) (res : Bool) (W : World) : Prop where
  touch : Touch (fun _ => False) w W
  b5 : W.heap[B5]? = some (.cells #[lv] 34 (0, 0))
  b6 : W.heap[B6]? = some (.cells #[pv] 49 (0, 0))
  b7 : W.heap[B7]? = some (.cells #[.int .i64 leave] 3 (0, 0))
  b8 : W.heap[B8]? = some (.cells #[.bool res] 4 (0, 0))
  b9 : W.heap[B9]? = some (.cells #[.int .i64 k] 3 (0, 0))
  lo : w.heap.size ≤ B8 ∧ w.heap.size ≤ B9 ∧ w.heap.size ≤ top
  hi : B5 < top ∧ B6 < top ∧ B7 < top ∧ B8 < top ∧ B9 < top ∧ B7 ≠ B9
  sz : top ≤ W.heap.size

theorem Wk.turn {S : Nat → Prop} {w W W' : World} {top B5 B6 B7 B8 B9 k : Nat} {lv pv : Value} {leave : Int} {res : Bool} (h : Wk w top B5 B6 B7 B8 B9 lv pv leave k res W) (ht : Touch S W W') (hS : ∀ g, S g → top ≤ g) : Wk w top B5 B6 B7 B8 B9 lv pv leave k res W' := by
  have n : ∀ g, g < top → ¬ S g := fun g hg s => by have := hS g s; omega
  obtain ⟨h5, h6, h7, h8, h9, _⟩ := h.hi
  exact ⟨h.touch.trans ht (fun g hg s => by have := hS g s; have := h.lo; omega), ht.heap h.b5 (n _ h5), ht.heap h.b6 (n _ h6), ht.heap h.b7 (n _ h7), ht.heap h.b8 (n _ h8), ht.heap h.b9 (n _ h9), h.lo, h.hi, Nat.le_trans h.sz ht.size⟩

theorem set_one {W : World} {B : Nat} {t : TypeId} {v : Value} (v' : Value) (h : W.heap[B]? = some (.cells #[v] t (0, 0))) : (W.setCell ⟨B, 0, none⟩ v').heap[B]? = some (.cells #[v'] t (0, 0)) := by
  have := heap_setCell_row (i := 0) h v'
  simpa using this

theorem Wk.next {w W : World} {top B5 B6 B7 B8 B9 k : Nat} {lv pv : Value} {leave : Int} {res : Bool} (h : Wk w top B5 B6 B7 B8 B9 lv pv leave k res W) (m : Nat) : Wk w top B5 B6 B7 B8 B9 lv pv leave m res (W.setCell ⟨B9, 0, none⟩ (.int .i64 m)) := by
  have ht : Touch (fun g => g = B9) W (W.setCell ⟨B9, 0, none⟩ (.int .i64 m)) := (Touch.refl (fun g => g = B9) W).setCell (p := ⟨B9, 0, none⟩) (fun _ => rfl) _
  exact ⟨h.touch.trans ht (fun g hg s => by have := h.lo; omega), ht.heap h.b5 (fun e => tags h.b5 h.b9 (by decide) e), ht.heap h.b6 (fun e => tags h.b6 h.b9 (by decide) e), ht.heap h.b7 h.hi.2.2.2.2.2, ht.heap h.b8 (fun e => tags h.b8 h.b9 (by decide) e), set_one _ h.b9, h.lo, h.hi, Nat.le_trans h.sz ht.size⟩

theorem Wk.say {w W : World} {top B5 B6 B7 B8 B9 k : Nat} {lv pv : Value} {leave : Int} {res : Bool} (h : Wk w top B5 B6 B7 B8 B9 lv pv leave k res W) (r : Bool) : Wk w top B5 B6 B7 B8 B9 lv pv leave k r (W.setCell ⟨B8, 0, none⟩ (.bool r)) := by
  have ht : Touch (fun g => g = B8) W (W.setCell ⟨B8, 0, none⟩ (.bool r)) := (Touch.refl (fun g => g = B8) W).setCell (p := ⟨B8, 0, none⟩) (fun _ => rfl) _
  exact ⟨h.touch.trans ht (fun g hg s => by have := h.lo; omega), ht.heap h.b5 (fun e => tags h.b5 h.b8 (by decide) e), ht.heap h.b6 (fun e => tags h.b6 h.b8 (by decide) e), ht.heap h.b7 (fun e => tags h.b7 h.b8 (by decide) e), set_one _ h.b8, ht.heap h.b9 (fun e => tags h.b9 h.b8 (by decide) e), h.lo, h.hi, Nat.le_trans h.sz ht.size⟩

theorem Wk.bides {w : World} {top B5 B6 B7 B8 B9 k : Nat} {lv pv : Value} {leave : Int} {res : Bool} : Bides top (Wk w top B5 B6 B7 B8 B9 lv pv leave k res) := fun W l o o' h hl _ _ => h.turn (touch_put W l o') (fun g e => by omega)

theorem keeps_touch {S : Nat → Prop} {W W' : World} (ht : Touch S W W') (hS : ∀ g, S g → ∃ c t f, W.heap[g]? = some (.cells c t f)) : KeepsOthers W W' :=
  ⟨ht.size, fun k o hk ho => by
    by_cases s : S k
    · obtain ⟨c, t, f, e⟩ := hS k s
      rw [hk] at e; injection e with e; rw [e] at ho; cases ho
    · exact ht.heap hk s⟩

theorem one_cell {W : World} {B : Nat} {t : TypeId} {v : Value} (h : W.heap[B]? = some (.cells #[v] t (0, 0))) : W.cell? ⟨B, 0, none⟩ = some v ∧ W.frozen? ⟨B, 0, none⟩ = false := by simp [World.cell?, World.frozen?, h]

set_option maxRecDepth 100000 in
set_option maxHeartbeats 2000000 in
theorem walks_any (Bs : Nat) (t : Txt) (hc : t.xs.length ≤ t.cap) (hb : t.xs.length ≤ 2147483648) (lst : List (Int × List Int)) (p er : Nat) (hH : Heads t.xs lst p er) (lo : Option Addr) (lc pg pc : Nat) (bl : List Blk) (leave : Int) (w : World) (hT : Takes Bs t 0 w)
    (hs : SegB w lo bl) (hk : bl.map Blk.key = lst) (hpl : ∀ k, k ≤ lst.length → w.cell? ⟨pg, k, none⟩ = some (.int .i64 ((pl lst k : Nat) : Int))) :
    Calls Tryd.prog 26 #[.func (.func 52) #[] #[.pointer (some ⟨Bs, 0, none⟩)], .slice lo bl.length lc, .slice (some ⟨pg, 0, none⟩) (bl.length + 1) pc, .int .i64 leave] w fun e w' => e = .returned (.bool true) ∧ Touch (fun _ => False) w w' := by
  refine (callsIn_wide (n := 3)).1 (callsIn_of_wp_marks Tryd.func26 rfl trivial ?_ rfl)
  simp only [Tryd.ntmps26, List.size_toArray, List.length_cons, List.length_nil, Nat.reduceAdd, Nat.reduceSub, Array.replicate_succ, Array.replicate_zero, List.push_toArray, List.append_toArray, List.nil_append, List.cons_append]
  gi_wp2
  obtain ⟨top, etop⟩ : ∃ top, top = w.heap.size + 1 + 1 + 1 + 1 + 1 := ⟨_, rfl⟩
  obtain ⟨B9, e9⟩ : ∃ B9, B9 = w.heap.size + 1 + 1 + 1 + 1 := ⟨_, rfl⟩
  obtain ⟨B8, e8⟩ : ∃ B8, B8 = w.heap.size + 1 + 1 + 1 := ⟨_, rfl⟩
  obtain ⟨B7, e7⟩ : ∃ B7, B7 = w.heap.size + 1 + 1 := ⟨_, rfl⟩
  obtain ⟨B6, e6⟩ : ∃ B6, B6 = w.heap.size + 1 := ⟨_, rfl⟩
  obtain ⟨B5, e5⟩ : ∃ B5, B5 = w.heap.size := ⟨_, rfl⟩
  obtain ⟨W1, eW1⟩ : ∃ W1, W1 = ((((w.alloc (.cells #[.slice lo bl.length lc] 34)).alloc (.cells #[.slice (some ⟨pg, 0, none⟩) (bl.length + 1) pc] 49)).alloc (.cells #[.int .i64 leave] 3)).alloc (.cells #[.bool false] 4)).alloc (.cells #[.int .i64 0] 3) := ⟨_, rfl⟩
  have hsz : W1.heap.size = top := by rw [eW1, etop]; simp
  have WK : Wk w top B5 B6 B7 B8 B9 (.slice lo bl.length lc) (.slice (some ⟨pg, 0, none⟩) (bl.length + 1) pc) leave 0 false W1 := by
    have nw : ∀ (V : World) (o : Obj) (n : Nat), n = V.heap.size → (V.alloc o).heap[n]? = some o := fun V o n e => by rw [e]; exact World.alloc_heap_new V o
    have kp : ∀ (V : World) (o o' : Obj) (n : Nat), V.heap[n]? = some o → (V.alloc o').heap[n]? = some o := fun V o o' n h => (Below.heap_alloc V o' n (lt_of_heap h)).trans h
    refine ⟨by rw [eW1]; exact (((((Touch.refl _ _).alloc _).alloc _).alloc _).alloc _).alloc _, ?_, ?_, ?_, ?_, ?_, ⟨by omega, by omega, by omega⟩, ⟨by omega, by omega, by omega, by omega, by omega, by omega⟩, by rw [hsz]; exact Nat.le_refl _⟩
    · rw [eW1]; exact kp _ _ _ _ (kp _ _ _ _ (kp _ _ _ _ (kp _ _ _ _ (nw _ _ _ e5))))
    · rw [eW1]; exact kp _ _ _ _ (kp _ _ _ _ (kp _ _ _ _ (nw _ _ _ (by rw [e6]; simp))))
    · rw [eW1]; exact kp _ _ _ _ (kp _ _ _ _ (nw _ _ _ (by rw [e7]; simp)))
    · rw [eW1]; exact kp _ _ _ _ (nw _ _ _ (by rw [e8]; simp))
    · rw [eW1]; exact nw _ _ _ (by rw [e9]; simp)
  rw [← e9, ← e8, ← e7, ← e6, ← e5, ← eW1]
  have HSEQ := hide (each1_any Bs t hc hb lst p er hH)
  have HWK := hide WK
  have HLEN : Hid (bl.length = lst.length) := hide (by rw [← hk]; simp)
  clear e5 e6 e7 e8 e9 etop eW1 WK
  refine wpIn_range (gf := 52) (lb := #[.pointer (some ⟨Bs, 0, none⟩)]) rfl (enters_of Tryd.func52 (by kernel_rfl) rfl) HSEQ.out (fun _ => rfl)
    (fun k W => Wk w top B5 B6 B7 B8 B9 (.slice lo bl.length lc) (.slice (some ⟨pg, 0, none⟩) (bl.length + 1) pc) leave k false W)
    (fun c _ W => c = .ret ∧ ∃ m, Wk w top B5 B6 B7 B8 B9 (.slice lo bl.length lc) (.slice (some ⟨pg, 0, none⟩) (bl.length + 1) pc) leave m true W)
    (fun k x a' W => ∃ (hk : k < lst.length) (Bx : Nat), W.heap[Bx]? = some (.cells #[.int .u8 lst[k].1, .slice x.bo x.bn x.bc] 36 (0, 0)) ∧ x.place = pl lst k ∧ x.tag = lst[k].1 ∧ Row W 5 .u8 (.slice x.bo x.bn x.bc) lst[k].2 ∧ (∀ g, (Value.slice x.bo x.bn x.bc).ownBlock = some g → top ≤ g) ∧
      a' = { tmps := #[.func (.func 52) #[] #[.pointer (some ⟨Bs, 0, none⟩)], .slice lo bl.length lc, .slice (some ⟨pg, 0, none⟩) (bl.length + 1) pc, .int .i64 leave, undef, .pointer (some ⟨B5, 0, none⟩), .pointer (some ⟨B6, 0, none⟩), .pointer (some ⟨B7, 0, none⟩), .pointer (some ⟨B8, 0, none⟩), .pointer (some ⟨B9, 0, none⟩), .int .i64 (x.place : Int), .pointer (some ⟨Bx, 0, none⟩), .func (.func 52) #[] #[.pointer (some ⟨Bs, 0, none⟩)], .int .i64 (x.place : Int), .agg #[.int .u8 x.tag, .slice x.bo x.bn x.bc], undef, undef, undef, undef, undef, undef, undef, undef, undef, undef, undef, undef, undef, undef, undef, undef, undef, undef, undef, undef, undef, undef, undef, undef, undef, undef, undef, undef, undef, undef, undef, undef, undef, undef, undef, undef, undef, undef, undef, undef, undef, undef, undef, undef, undef, undef], defers := [] })
    (fun k W h => ?tk) (fun k W W' h ht => h.turn ht (fun _ h => h.elim)) (fun k => by rw [hsz]; exact Wk.bides) (fun c k => ?xp) (fun k x a' => ?ap) HWK.out ?assign ?body ?done ?stop
  case tk => exact ⟨((h.touch.cell (p := ⟨Bs, 0, none⟩) (lt_of_cell hT.1) (fun h => h)).trans hT.1), hT.2.1.touch h.touch, hT.2.2.touch h.touch (fun h => h)⟩
  case xp =>
    rw [hsz]
    rintro W l o o' ⟨rfl, m, h⟩ h1 h2 h3
    exact ⟨rfl, m, Wk.bides W l o o' h h1 h2 h3⟩
  case ap =>
    rw [hsz]
    rintro W l o o' ⟨hk, Bx, h1, h2, h3, h4, h5, h6⟩ hl ho hc
    refine ⟨hk, Bx, (touch_put W l o').heap h1 (fun e => ?_), h2, h3, h4.put o' ho hc, h5, h6⟩
    subst e
    rw [h1] at ho; injection ho with ho; rw [← ho] at hc; cases hc
  case assign =>
    rintro l k x W0 W K h0 hi hkm ⟨hk1, hx1, hx2, hx3⟩ hK
    have hN := hx3.keep ((Touch.refl (fun _ => False) W).alloc (.cells #[.int .u8 x.tag, .slice x.bo x.bn x.bc] 36))
    have hB := World.alloc_heap_new W (.cells #[.int .u8 x.tag, .slice x.bo x.bn x.bc] 36)
    have hsz0 : top ≤ W0.heap.size := h0.sz
    have HX1 := hide hx1
    have HX2 := hide hx2
    have HBB := hide hB
    clear hx1 hx2 hx3 hB
    simp only [Hand.encs]
    gi_wp2
    refine hK _ _ (KeepsOthers.alloc _ _) (hi.turn ((Touch.refl (fun _ => False) W).alloc _) (fun _ h => h.elim)) ⟨hk1, W.heap.size, by rw [← HX2.out]; exact HBB.out, HX1.out, HX2.out, hN.row, fun g hg => Nat.le_trans hsz0 (hN.lo g hg), rfl⟩
  case body =>
    rintro l k x a' W hi hkm ⟨hk1, Bx, hBx, hx1, hx2, hrow, hlo, rfl⟩
    obtain ⟨c5, _⟩ := one_cell hi.b5
    obtain ⟨c6, _⟩ := one_cell hi.b6
    obtain ⟨c7, _⟩ := one_cell hi.b7
    obtain ⟨c9, _⟩ := one_cell hi.b9
    obtain ⟨d0, d1⟩ := cells2 hBx
    have hkb : k < bl.length := by rw [HLEN.out]; exact hk1
    have sb := hs.touch hi.touch
    obtain ⟨b, off, elo⟩ := sb.addr (by omega)
    obtain ⟨s0, s1⟩ := sb.cell b off elo k hkb
    have okb := sb.ok _ (List.getElem_mem hkb)
    have hkey : bl[k].key = lst[k] := by
      have h1 : (bl.map Blk.key)[k]? = some bl[k].key := by rw [List.getElem?_map, List.getElem?_eq_getElem hkb]; rfl
      rw [hk, List.getElem?_eq_getElem hk1] at h1
      injection h1 with h1; exact h1.symm
    have ek1 : bl[k].tag = lst[k].1 := congrArg Prod.fst hkey
    have ek2 : bl[k].t.xs = lst[k].2 := congrArg Prod.snd hkey
    have pc0 := (hi.touch.cell (p := ⟨pg, k, none⟩) (lt_of_cell (hpl k (by omega))) (fun h => h)).trans (hpl k (by omega))
    rw [← hx1] at pc0
    rw [ek1] at s0
    simp only [Txt.val, ek2] at s1
    have hbn := hrow.len
    have h8 : In8 lst[k].2 := by rw [← ek2]; exact okb.t.in8
    have hxl : lst[k].2.length ≤ 268435456 := (hH.ok _ (List.getElem_mem hk1)).len
    have CV1 : ∀ n, (convert 22 9 (.slice x.bo lst[k].2.length x.bc)).run Tryd.prog (W.drewN n) = .ok (.string (strOfNums lst[k].2)) (W.drewN n) := fun n => conv_seg (Seg.of_row (hrow.touch (Touch.drewN (Touch.refl (fun _ => False) W) n) (fun _ _ h => h))) _
    have CV2 : ∀ n, (convert 22 9 (.slice bl[k].t.ao lst[k].2.length bl[k].t.cap)).run Tryd.prog (W.drewN n) = .ok (.string (strOfNums lst[k].2)) (W.drewN n) := fun n => by
      have := conv_seg (okb.t.touch (Touch.drewN (Touch.refl (fun _ => False) W) n)).seg bl[k].t.cap
      rw [ek2] at this; exact this
    have SP := hide (fun n => spoilt_any x.bo x.bn x.bn x.bc lst[k].2 (W.drewN n) (hrow.touch (Touch.drewN (Touch.refl (fun _ => False) W) n) (fun _ _ h => h)) h8 (Nat.le_refl _) (by omega))
    have hcellr : ∀ g, (Value.slice x.bo x.bn x.bc).ownBlock = some g → ∃ c t f, W.heap[g]? = some (.cells c t f) := fun g hg => by obtain ⟨c, h⟩ := hrow.block hg; exact ⟨c, _, _, h⟩
    have HCR := hide hcellr
    have hkl : k < 2147483648 := by
      have h1 := blks_len (bl := bl)
      rw [rowB_key, hk] at h1
      have h2 : (rowF lst).length ≤ t.xs.length := by rw [hH.row, List.length_take]; omega
      omega
    have hd : decide (bl.length ≤ k) = false := decide_eq_false (by omega)
    have hlt' : (k : Int) < (bl.length : Int) := by omega
    have hlt2 : (k : Int) < ((bl.length + 1 : Nat) : Int) := by omega
    have hki : (k : Int) < 2147483648 := by omega
    have HI := hide hi
    have HLO := hide hlo
    have HL1 := hide (show k + 1 ≤ lst.length by omega)
    subst elo
    rw [hbn] at SP HCR HLO d1 ⊢
    generalize strOfNums lst[k].2 = st at *
    generalize lst[k].1 = tg at *
    generalize lst[k].2.length = xn at *
    generalize bl[k].t.ao = ba at *
    generalize bl[k].t.cap = bc at *
    generalize x.place = pla at *
    generalize x.bo = xo at *
    generalize x.bc = xc at *
    generalize x.tag = xt at *
    clear hx1 hx2 hrow hlo ek1 ek2 okb sb hkey hbn h8 hcellr hBx hi hpl hs hT hH HSEQ HWK HLEN hkm hkb hk
    generalize bl.length = bn at *
    gi_wp2
    refine region_quiet_round (by kernel_rfl) (by kernel_rfl) (by kernel_rfl) ?_
    repeat (go_big_quiet_step (fail))
    refine wpQuiet_nil ?_
    intro _ hw'
    obtain ⟨nq, hw''⟩ := hw'
    subst hw''
    gi_wp2
    refine ⟨trivial, (CallsIn.inRound l (callsIn_wide.2 (SP.out nq))).mono ?_⟩
    rintro e w8 ⟨⟨v8, rfl⟩, t8⟩
    have T8 := (Touch.drewN (Touch.refl (fun g => (Value.slice xo xn xc).ownBlock = some g) W) nq).trans t8 (fun _ _ h => h)
    have K8 := keeps_touch T8 HCR.out
    have WK8 := HI.out.turn T8 HLO.out
    have WK9 := WK8.next (k + 1)
    have ek : ((k + 1 : Nat) : Int) = (k : Int) + 1 := by omega
    rw [ek] at WK9
    have K9 := K8.trans (KeepsOthers.setCell w8 ⟨B9, 0, none⟩ (.int .i64 ((k : Int) + 1)))
    obtain ⟨c9', f9'⟩ := one_cell WK8.b9
    obtain ⟨c9'', _⟩ := one_cell WK9.b9
    obtain ⟨c7'', _⟩ := one_cell WK9.b7
    obtain ⟨c8'', f8''⟩ := one_cell WK9.b8
    rw [ek] at c9''
    have HK9 := hide K9
    have HW9 := hide WK9
    clear ek SP HI HLO HCR t8 T8 K8 WK8 K9 WK9 c5 c6 c7 c9 d0 d1 s0 s1 pc0 CV1 CV2
    by_cases hlv : (k : Int) + 1 = leave
    · have hE1 : (((k : Int) + 1) == leave) = true := by rw [beq_iff_eq]; exact hlv
      have HLV := hide hlv
      clear hlv
      gi_wp2
      exact ⟨HK9.out.trans (KeepsOthers.setCell _ _ _), rfl, k + 1, HW9.out.say true⟩
    · have hE1 : (((k : Int) + 1) == leave) = false := by rw [beq_eq_false_iff_ne]; exact hlv
      have HLV := hide hlv
      clear hlv
      gi_wp2
      exact ⟨HK9.out, HW9.out⟩
  case done =>
    rintro D W hD hi hd
    rw [hsz] at hD
    obtain ⟨c5, _⟩ := one_cell hi.b5
    obtain ⟨c8, f8⟩ := one_cell hi.b8
    obtain ⟨c9, _⟩ := one_cell hi.b9
    rw [← HLEN.out] at c9
    have WE := (hi.say true)
    have hd2 := (KeepsOthers.setCell W ⟨B8, 0, none⟩ (.bool true)).same D _ hd rfl
    have WF := Wk.bides _ D _ (.deferred none) WE hD hd2 rfl
    obtain ⟨r8, _⟩ := one_cell WF.b8
    have HWF := hide WF
    have HD2 := hide hd2
    clear WE WF hd2 hi hd
    gi_wp2
    refine ⟨by simp, .inl ⟨_, _, rfl, run_takeDeferred HD2.out, ?_⟩⟩
    exact ⟨.bool true, by simp [results, Tryd.results26, go_sem, r8], rfl, HWF.out.touch⟩
  case stop =>
    rintro D c k W hD hkm ⟨rfl, m, hi⟩ hd
    rw [hsz] at hD
    have WF := Wk.bides _ D _ (.deferred none) hi hD hd rfl
    obtain ⟨r8, _⟩ := one_cell WF.b8
    have HWF := hide WF
    have HD2 := hide hd
    clear WF hd hi
    gi_wp2
    refine ⟨by simp, .inl ⟨_, _, rfl, run_takeDeferred HD2.out, ?_⟩⟩
    exact ⟨.bool true, by simp [results, Tryd.results26, go_sem, r8], rfl, HWF.out.touch⟩

end Go.Proofs.YtfeifobljgmkkaaDoor
