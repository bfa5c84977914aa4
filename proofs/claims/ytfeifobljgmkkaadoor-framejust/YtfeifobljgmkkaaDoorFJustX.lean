/- The program's Just. -/
import Derived.Test.YtfeifobljgmkkaaDoorFJustP
namespace Go.Proofs.YtfeifobljgmkkaaDoor
open Go.RowKit Crcx
attribute [local go_sem] Oper.semAt_some

theorem own_fun {W : World} {b n : Nat} {e : TypeId} {v : Value} {xs ys : List Value} (h : W.ownsRow b e 1 v n xs) (h' : W.ownsRow b e 1 v n ys) : xs = ys := by
  rcases h with ⟨hl, ⟨rfl, rfl⟩ | ⟨g, cap, cur, rfl, _, hc, _, _, _, ht⟩⟩
  · rcases h' with ⟨hl', _⟩
    have e1 : xs = [] := List.eq_nil_of_length_eq_zero (by simpa using hl)
    have e2 : ys = [] := List.eq_nil_of_length_eq_zero (by simpa using hl')
    rw [e1, e2]
  · rcases h' with ⟨hl', ⟨e, _⟩ | ⟨g', cap', cur', e, _, hc', _, _, _, ht'⟩⟩
    · cases e
    · injection e with e1 _ _; injection e1 with e1; injection e1 with e1 _ _
      subst e1
      rw [hc] at hc'; injection hc' with hc'; injection hc' with hc' _ _
      rw [← ht, ← ht', hc']

theorem rowF_len : ∀ (l : List (Int × List Int)), l.length ≤ (rowF l).length
  | [] => Nat.zero_le _
  | y :: l => by
    rw [rowF_cons, List.length_append, List.length_cons]
    have := frm_pos y.1 y.2
    have := rowF_len l
    omega

theorem just_end {w V : World} {top B3 Bs B4 B5 B6 B7 B8 q D : Nat} {tv sv v4 v : Value} {q4 e4 : Int} {ts : List Txt} (h : Jk w top B3 Bs B4 B5 B6 B7 B8 tv sv v4 q4 e4 v q ts V) (hD : top ≤ D) (hd : V.heap[D]? = some (.deferred (some []))) :
    (V.putObj D (.deferred none)).cell? ⟨B4, 0, none⟩ = some v4 ∧ (V.putObj D (.deferred none)).cell? ⟨B5, 0, none⟩ = some (.int .i64 q4) ∧ (V.putObj D (.deferred none)).cell? ⟨B6, 0, none⟩ = some (.int .i64 e4) ∧ Touch (fun _ => False) w (V.putObj D (.deferred none)) ∧ Come top (V.putObj D (.deferred none)) v ts := by
  have J := Jk.bides V D _ (.deferred none) h hD hd rfl
  exact ⟨(one_cell J.b4).1, (one_cell J.b5).1, (one_cell J.b6).1, J.touch, J.come⟩

/-- The three answers put into their cells. -/
theorem just_put {w W : World} {top B3 Bs B4 B5 B6 B7 B8 q D : Nat} {tv sv v4 v : Value} {q4 e4 : Int} {ts : List Txt} (h : Jk w top B3 Bs B4 B5 B6 B7 B8 tv sv v4 q4 e4 v q ts W) (hd : W.heap[D]? = some (.deferred (some []))) (u : Value) (a b : Int) :
    Jk w top B3 Bs B4 B5 B6 B7 B8 tv sv u a b v q ts (((W.setCell ⟨B4, 0, none⟩ u).setCell ⟨B5, 0, none⟩ (.int .i64 a)).setCell ⟨B6, 0, none⟩ (.int .i64 b)).drew ∧ (((W.setCell ⟨B4, 0, none⟩ u).setCell ⟨B5, 0, none⟩ (.int .i64 a)).setCell ⟨B6, 0, none⟩ (.int .i64 b)).drew.heap[D]? = some (.deferred (some [])) :=
  ⟨(((h.at4 u).at5 a).at6 b).turn (Touch.drew (Touch.refl (fun _ => False) _)) (fun _ h => h.elim), ((KeepsOthers.setCell _ _ _).trans ((KeepsOthers.setCell _ _ _).trans (KeepsOthers.setCell _ _ _))).same D _ hd rfl⟩

set_option maxRecDepth 100000 in
set_option maxHeartbeats 4000000 in
theorem just_any (t tg : Txt) (w : World) (hT : Tab w) (ho : t.Ok w) (hc : t.xs.length ≤ t.cap) (hb : t.xs.length ≤ 2147483648) (hog : tg.Ok w) (hlg : tg.xs.length ≤ 2147483648) :
    Calls Tryd.prog 27 #[.slice t.ao t.xs.length t.cap, .slice tg.ao tg.xs.length tg.cap] w (JEnd w t.xs tg.xs) := by
  obtain ⟨lst, p, er, hH⟩ := heads_ex ho.in8
  obtain ⟨i0, hi, hz0, hz1, hz2⟩ := info_parts2 infoSl
  refine (callsIn_wide (n := 3)).1 (callsIn_of_wp_marks Tryd.func27 rfl trivial ?_ rfl)
  simp only [Tryd.ntmps27, List.size_toArray, List.length_cons, List.length_nil, Nat.reduceAdd, Nat.reduceSub, Array.replicate_succ, Array.replicate_zero, List.push_toArray, List.append_toArray, List.nil_append, List.cons_append]
  gi_wp2
  refine ⟨trivial, (callsIn_wide.2 (each_any _ _ _ _)).mono ?_⟩
  rintro e w1 ⟨rfl, rfl⟩
  gi_wp2
  obtain ⟨top, etop⟩ : ∃ top, top = w.heap.size + 1 + 1 + 1 + 1 + 1 + 1 + 1 := ⟨_, rfl⟩
  obtain ⟨Bs, es⟩ : ∃ Bs, Bs = w.heap.size + 1 + 1 + 1 + 1 + 1 + 1 := ⟨_, rfl⟩
  obtain ⟨B8, e8⟩ : ∃ B8, B8 = w.heap.size + 1 + 1 + 1 + 1 + 1 := ⟨_, rfl⟩
  obtain ⟨B7, e7⟩ : ∃ B7, B7 = w.heap.size + 1 + 1 + 1 + 1 := ⟨_, rfl⟩
  obtain ⟨B6, e6⟩ : ∃ B6, B6 = w.heap.size + 1 + 1 + 1 := ⟨_, rfl⟩
  obtain ⟨B5, e5⟩ : ∃ B5, B5 = w.heap.size + 1 + 1 := ⟨_, rfl⟩
  obtain ⟨B4, e4⟩ : ∃ B4, B4 = w.heap.size + 1 := ⟨_, rfl⟩
  obtain ⟨B3, e3⟩ : ∃ B3, B3 = w.heap.size := ⟨_, rfl⟩
  obtain ⟨W1, eW1⟩ : ∃ W1, W1 = ((((((w.alloc (.cells #[.slice tg.ao tg.xs.length tg.cap] 22)).alloc (.cells #[.slice none 0 0] 57)).alloc (.cells #[.int .i64 0] 3)).alloc (.cells #[.int .i64 0] 27)).alloc (.cells #[.slice none 0 0] 57)).alloc (.cells #[.int .i64 0] 3)).alloc (.cells #[.slice t.ao t.xs.length t.cap] 22) := ⟨_, rfl⟩
  have hsz : W1.heap.size = top := by rw [eW1, etop]; simp
  have WK : Jk w top B3 Bs B4 B5 B6 B7 B8 (.slice tg.ao tg.xs.length tg.cap) (.slice t.ao t.xs.length t.cap) (.slice none 0 0) 0 0 (.slice none 0 0) 0 [] W1 := by
    have nw : ∀ (V : World) (o : Obj) (n : Nat), n = V.heap.size → (V.alloc o).heap[n]? = some o := fun V o n e => by rw [e]; exact World.alloc_heap_new V o
    have kp : ∀ (V : World) (o o' : Obj) (n : Nat), V.heap[n]? = some o → (V.alloc o').heap[n]? = some o := fun V o o' n h => (Below.heap_alloc V o' n (lt_of_heap h)).trans h
    refine ⟨by rw [eW1]; exact (((((((Touch.refl _ _).alloc _).alloc _).alloc _).alloc _).alloc _).alloc _).alloc _, ?_, ?_, ?_, ?_, ?_, ?_, ?_, ⟨World.ownsRow_nil W1 _ _ _, fun x hx => by simp at hx, List.Pairwise.nil⟩, ⟨by omega, by omega, by omega, by omega, by omega, by omega⟩, ⟨by omega, by omega, by omega, by omega, by omega, by omega, by omega, by omega, by omega⟩, by rw [hsz]; exact Nat.le_refl _⟩
    · rw [eW1]; exact kp _ _ _ _ (kp _ _ _ _ (kp _ _ _ _ (kp _ _ _ _ (kp _ _ _ _ (kp _ _ _ _ (nw _ _ _ e3))))))
    · rw [eW1]; exact nw _ _ _ (by rw [es]; simp)
    · rw [eW1]; exact kp _ _ _ _ (kp _ _ _ _ (kp _ _ _ _ (kp _ _ _ _ (kp _ _ _ _ (nw _ _ _ (by rw [e4]; simp))))))
    · rw [eW1]; exact kp _ _ _ _ (kp _ _ _ _ (kp _ _ _ _ (kp _ _ _ _ (nw _ _ _ (by rw [e5]; simp)))))
    · rw [eW1]; exact kp _ _ _ _ (kp _ _ _ _ (kp _ _ _ _ (nw _ _ _ (by rw [e6]; simp))))
    · rw [eW1]; exact kp _ _ _ _ (kp _ _ _ _ (nw _ _ _ (by rw [e7]; simp)))
    · rw [eW1]; exact kp _ _ _ _ (nw _ _ _ (by rw [e8]; simp))
  rw [← es, ← e8, ← e7, ← e6, ← e5, ← e4, ← e3, ← eW1]
  have HSEQ := hide (each1_any Bs t hc hb lst p er hH)
  have HWK := hide WK
  clear e3 e4 e5 e6 e7 e8 es etop eW1 WK
  refine wpIn_range (gf := 52) (lb := #[.pointer (some ⟨Bs, 0, none⟩)]) rfl (enters_of Tryd.func52 (by kernel_rfl) rfl) HSEQ.out (fun _ => rfl)
    (fun k W => ∃ ao c ts, Jk w top B3 Bs B4 B5 B6 B7 B8 (.slice tg.ao tg.xs.length tg.cap) (.slice t.ao t.xs.length t.cap) (.slice none 0 0) 0 0 (.slice ao k c) (pl lst k) ts W ∧ ts.map Txt.xs = (lst.take k).map Prod.snd ∧ ts.length = k ∧ Fits lst tg.xs k)
    (fun c _ W => c = .ret ∧ ∃ v ts m k, ∃ hk : k < lst.length, Jk w top B3 Bs B4 B5 B6 B7 B8 (.slice tg.ao tg.xs.length tg.cap) (.slice t.ao t.xs.length t.cap) (.slice none 0 0) ((pl lst k : Nat) : Int) 133 v m ts W ∧ Fits lst tg.xs k ∧ (k = tg.xs.length ∨ tg.xs.getD k 0 ≠ lst[k].1))
    (fun k x a' W => ∃ (hk : k < lst.length) (Bx : Nat) (ao : Option Addr) (c : Nat) (ts : List Txt), Jk w top B3 Bs B4 B5 B6 B7 B8 (.slice tg.ao tg.xs.length tg.cap) (.slice t.ao t.xs.length t.cap) (.slice none 0 0) 0 0 (.slice ao k c) (pl lst k) ts W ∧ ts.map Txt.xs = (lst.take k).map Prod.snd ∧ ts.length = k ∧ Fits lst tg.xs k ∧ (∀ y ∈ ts, ∀ g, y.val.ownBlock = some g → (Value.slice x.bo x.bn x.bc).ownBlock ≠ some g) ∧ W.heap[Bx]? = some (.cells #[.int .u8 lst[k].1, .slice x.bo x.bn x.bc] 36 (0, 0)) ∧ x.place = pl lst k ∧ x.tag = lst[k].1 ∧ Row W 5 .u8 (.slice x.bo x.bn x.bc) lst[k].2 ∧ (∀ g, (Value.slice x.bo x.bn x.bc).ownBlock = some g → top ≤ g) ∧
      a' = { tmps := #[.slice t.ao t.xs.length t.cap, .slice tg.ao tg.xs.length tg.cap, undef, .pointer (some ⟨B3, 0, none⟩), .pointer (some ⟨B4, 0, none⟩), .pointer (some ⟨B5, 0, none⟩), .pointer (some ⟨B6, 0, none⟩), .pointer (some ⟨B7, 0, none⟩), .pointer (some ⟨B8, 0, none⟩), .int .i64 (x.place : Int), .pointer (some ⟨Bx, 0, none⟩), undef, undef, undef, undef, .slice t.ao t.xs.length t.cap, .func (.func 52) #[] #[.pointer (some ⟨Bs, 0, none⟩)], .int .i64 (x.place : Int), .agg #[.int .u8 x.tag, .slice x.bo x.bn x.bc], undef, undef, undef, undef, undef, undef, undef, undef, undef, undef, undef, undef, undef, undef, undef, undef, undef, undef, undef, undef, undef, undef, undef, undef, undef, undef, undef, undef, undef, undef, undef, undef, undef, undef, undef, undef, undef, undef, undef, undef, undef, undef, undef, undef, undef, undef, undef, undef, undef], defers := [] })
    (fun k W h => ?tk) (fun k W W' h ht => ?tt) (fun k => ?ip) (fun c k => ?xp) (fun k x a' => ?ap) ⟨none, 0, [], HWK.out, rfl, rfl, Nat.zero_le _, fun _ _ h => absurd h (by omega)⟩ ?assign ?body ?done ?stop
  case tk =>
    obtain ⟨ao, c, ts, h, _⟩ := h
    exact ⟨(one_cell h.bs).1, ho.touch h.touch, hT.touch h.touch (fun h => h)⟩
  case tt =>
    obtain ⟨ao, c, ts, h, r⟩ := h
    exact ⟨ao, c, ts, h.turn ht (fun _ h => h.elim), r⟩
  case ip =>
    rw [hsz]
    rintro W l o o' ⟨ao, c, ts, h, r⟩ h1 h2 h3
    exact ⟨ao, c, ts, Jk.bides W l o o' h h1 h2 h3, r⟩
  case xp =>
    rw [hsz]
    rintro W l o o' ⟨rfl, v, ts, m, k, hk, h, r⟩ h1 h2 h3
    exact ⟨rfl, v, ts, m, k, hk, Jk.bides W l o o' h h1 h2 h3, r⟩
  case ap =>
    rw [hsz]
    rintro W l o o' ⟨hk, Bx, ao, c, ts, hj, r1, r2, r3, hd, h1, h2, h3, h4, h5, h6⟩ hl hlo hlc
    refine ⟨hk, Bx, ao, c, ts, Jk.bides W l o o' hj hl hlo hlc, r1, r2, r3, hd, (touch_put W l o').heap h1 (fun e => ?_), h2, h3, h4.put o' hlo hlc, h5, h6⟩
    subst e
    rw [h1] at hlo; injection hlo with hlo; rw [← hlo] at hlc; cases hlc
  case assign =>
    rintro l k x W0 W K ⟨ao0, c0, ts0, h0, s1, s2, s3⟩ ⟨ao, c, ts, h, r1, r2, r3⟩ hkm ⟨hk1, hx1, hx2, hx3⟩ hK
    have TA := (Touch.refl (fun _ => False) W).alloc (.cells #[.int .u8 x.tag, .slice x.bo x.bn x.bc] 36)
    have hN := hx3.keep TA
    have hB := World.alloc_heap_new W (.cells #[.int .u8 x.tag, .slice x.bo x.bn x.bc] 36)
    have hdd : ∀ y ∈ ts, ∀ g, y.val.ownBlock = some g → (Value.slice x.bo x.bn x.bc).ownBlock ≠ some g := fun y hy g hg e => by
      have hlo := hx3.lo g e
      have b7 := hx3.touch.heap h0.b7 (fun h => h)
      rw [h.b7] at b7
      injection b7 with b7; injection b7 with b7 _ _
      have ev : Value.slice ao k c = .slice ao0 k c0 := by simpa using b7
      have o0 := own_touch h0.come.own hx3.touch (fun _ _ h => h)
      have o1 := h.come.own
      rw [← ev, s2] at o0
      rw [r2] at o1
      have em := own_fun o1 o0
      have hyv : y.val ∈ ts0.map Txt.val := by rw [← em]; exact List.mem_map.2 ⟨y, hy, rfl⟩
      obtain ⟨z, hz, ez⟩ := List.mem_map.1 hyv
      have := (h0.come.body z hz).1.lt (g := g) (by rw [ez]; exact hg)
      omega
    have HX1 := hide hx1
    have HX2 := hide hx2
    have HBB := hide hB
    have hszx : ∀ g, (Value.slice x.bo x.bn x.bc).ownBlock = some g → top ≤ g := fun g hg => Nat.le_trans h0.sz (hx3.lo g hg)
    have HJ := hide (h.turn TA (fun _ h => h.elim))
    clear hx1 hx2 hx3 hB h h0 s1 s2 s3
    simp only [Hand.encs]
    gi_wp2
    refine hK _ _ (KeepsOthers.alloc _ _) ⟨ao, c, ts, HJ.out, r1, r2, r3⟩ ⟨hk1, W.heap.size, ao, c, ts, HJ.out, r1, r2, r3, hdd, by rw [← HX2.out]; exact HBB.out, HX1.out, HX2.out, hN.row, hszx, rfl⟩
  case body =>
    rintro l k x a' W _ hkm ⟨hk1, Bx, ao, c, ts, hj, r1, r2, r3, hd, hBx, hx1, hx2, hrow, hlo, rfl⟩
    obtain ⟨c3, _⟩ := one_cell hj.b3
    obtain ⟨c4, f4⟩ := one_cell hj.b4
    obtain ⟨c7, f7⟩ := one_cell hj.b7
    obtain ⟨d0, d1⟩ := cells2 hBx
    have ok1 := hH.ok _ (List.getElem_mem hk1)
    have hkl : k < 2147483648 := by
      have h1 := rowF_len lst
      have h2 : (rowF lst).length ≤ t.xs.length := by rw [hH.row, List.length_take]; omega
      omega
    have hki : (k : Int) < 2147483648 := by omega
    have hgi : (tg.xs.length : Int) ≤ 2147483648 := by omega
    have HJ := hide hj
    have HX1 := hide hx1
    have HR3 := hide r3
    by_cases hend : k = tg.xs.length
    · have hE : ((k : Int) == (tg.xs.length : Int)) = true := by rw [beq_iff_eq]; omega
      have hE2 : (k == tg.xs.length) = true := by rw [beq_iff_eq]; exact hend
      have HMM : Hid (k = tg.xs.length ∨ tg.xs.getD k 0 ≠ lst[k].1) := hide (.inl hend)
      obtain ⟨gl, egl⟩ : ∃ gl, gl = tg.xs.length := ⟨_, rfl⟩
      rw [← egl] at hE hE2 c3 HJ hgi HMM ⊢
      clear egl
      clear hj hrow hlo hd r1 r2 r3 hx1 hx2 hend hBx ok1 hH HSEQ HWK ho hT hog
      gi_wp2
      refine region_quiet_round (by kernel_rfl) (by kernel_rfl) (by kernel_rfl) ?_
      repeat (go_big_quiet_step (fail))
      refine wpQuiet_nil ?_
      intro _ hw'
      obtain ⟨nq, hw''⟩ := hw'
      subst hw''
      have TQ := Touch.drewN (Touch.refl (fun _ => False) W) nq
      have jq := HJ.out.turn TQ (fun _ h => h.elim)
      have j4 := jq.at4 (.slice none 0 0)
      have j5 := j4.at5 (x.place : Int)
      have j6 := j5.at6 133
      obtain ⟨c4', f4'⟩ := one_cell jq.b4
      obtain ⟨c5', f5'⟩ := one_cell j4.b5
      obtain ⟨c6', f6'⟩ := one_cell j5.b6
      have HJ6 := hide j6
      have KQ := hide (((keeps_touch TQ (fun _ h => h.elim)).trans (KeepsOthers.setCell _ ⟨B4, 0, none⟩ (.slice none 0 0))).trans (KeepsOthers.setCell _ ⟨B5, 0, none⟩ (.int .i64 (x.place : Int))))
      clear jq j4 j5 j6 TQ
      gi_wp2
      exact ⟨KQ.out.trans (KeepsOthers.setCell _ _ _), rfl, _, _, _, k, hk1, by rw [← HX1.out]; exact HJ6.out, HR3.out, HMM.out⟩
    · have hE : ((k : Int) == (tg.xs.length : Int)) = false := by rw [beq_eq_false_iff_ne]; omega
      have hE2 : (k == tg.xs.length) = false := by rw [beq_eq_false_iff_ne]; exact hend
      have hkg : k < tg.xs.length := by have := r3.1; omega
      have hkgi : (k : Int) < (tg.xs.length : Int) := by omega
      have og := hog.touch hj.touch
      obtain ⟨tb, tf, etb⟩ := og.seg.addr (by omega)
      have tc : W.cell? ⟨tb, tf + k, none⟩ = some (.int .u8 (tg.xs.getD k 0)) := (etb ▸ og.seg).at k hkg
      by_cases heq : tg.xs.getD k 0 = lst[k].1
      · have hbn := hrow.len
        have hxl := ok1.len
        have hplx := hH.before k
        have hps := pl_succ lst k hk1
        have hf10 := fsize_le hxl
        have FS := hide (fun V => fsize_any lst[k].2.length hxl V)
        have HFN : Hid (Fits lst tg.xs (k + 1)) := hide ⟨by omega, fun j h1 h2 => by
          by_cases e : j = k
          · subst e; exact heq
          · exact r3.2 j h1 (by omega)⟩
        have HR1 : Hid ((ts ++ [(⟨x.bo, x.bc, lst[k].2⟩ : Txt)]).map Txt.xs = (lst.take (k + 1)).map Prod.snd) := hide (by rw [List.map_append, r1, List.take_succ_eq_append_getElem hk1, List.map_append]; rfl)
        have HR2 : Hid ((ts ++ [(⟨x.bo, x.bc, lst[k].2⟩ : Txt)]).length = k + 1) := hide (by simp [r2])
        have hval : (⟨x.bo, x.bc, lst[k].2⟩ : Txt).val = .slice x.bo x.bn x.bc := by unfold Txt.val; simp only; rw [hbn]
        have OW := hide hj.come.own
        rw [r2] at OW
        have hszt := hj.sz
        obtain ⟨cur, ecur⟩ : ∃ cur, cur = ts.map Txt.val := ⟨_, rfl⟩
        rw [← ecur] at OW
        have HMO := hide (fun (V w2 : World) (v' : Value) (tV : Touch (fun _ => False) W V) (hown : w2.ownsRow top 22 1 v' (k + 1) (cur ++ [.slice x.bo x.bn x.bc])) (hg : V.grownBy w2 (Value.slice ao k c).ownBlock) => hj.more (x := ⟨x.bo, x.bc, lst[k].2⟩) tV (by rw [hval]; exact hrow.touch tV (fun _ _ h => h)) (by rw [hval]; exact hlo) (by rw [hval]; exact hd) (by rw [r2, ← ecur, hval]; exact hown) hg)
        have HBX := hide (fun (V w2 : World) (v' : Value) (tV : Touch (fun _ => False) W V) (hg : V.grownBy w2 (Value.slice ao k c).ownBlock) => (show (w2.setCell ⟨B7, 0, none⟩ v').cell? ⟨Bx, 1, none⟩ = some (.slice x.bo x.bn x.bc) from by
          have h1 := tV.heap hBx (fun h => h)
          have hjv := hj.turn tV (fun _ h => h.elim)
          have h2 := (Touch.of_grownBy hg).heap h1 (fun e => by obtain ⟨_, cu, hcu⟩ := own_block hjv.come.own e; exact tags h1 hcu (by decide) rfl)
          have h7 := (Touch.of_grownBy hg).heap hjv.b7 (fun e => by obtain ⟨hb7, _⟩ := own_block hjv.come.own e; have := hj.hi; omega)
          have tS : Touch (fun g => g = B7) w2 (w2.setCell ⟨B7, 0, none⟩ v') := (Touch.refl (fun g => g = B7) w2).setCell (p := ⟨B7, 0, none⟩) (fun _ => rfl) _
          exact (cells2 (tS.heap h2 (fun e => tags h2 h7 (by decide) e))).2))
        have hKO := hide (fun (V w2 : World) (tV : Touch (fun _ => False) W V) (hg : V.grownBy w2 (Value.slice ao k c).ownBlock) => (keeps_touch tV (fun _ h => h.elim)).trans (keeps_touch (Touch.of_grownBy hg) (fun g e => by
          have hjv := hj.turn tV (fun _ h => h.elim)
          obtain ⟨_, cu, hcu⟩ := own_block hjv.come.own e
          exact ⟨cu, _, _, hcu⟩)))
        have HPS := hide hps
        have hpi : (x.place : Int) + (fsize lst[k].2.length : Int) ≤ 4294967296 := by rw [hx1]; omega
        have hpe : Hid ((x.place : Int) + (fsize lst[k].2.length : Int) = ((pl lst (k + 1) : Nat) : Int)) := hide (by rw [hx1, hps]; omega)
        have hfi : (fsize lst[k].2.length : Int) ≤ 268435466 := by omega
        have hplI : (x.place : Int) ≤ 2147483648 := by rw [hx1]; omega
        rw [heq] at tc
        rw [hbn] at d1 HMO HBX
        obtain ⟨gl, egl⟩ : ∃ gl, gl = tg.xs.length := ⟨_, rfl⟩
        rw [← egl] at hE hE2 c3 HJ hgi hkgi HMO ⊢
        rw [etb] at c3 HJ HMO ⊢
        rw [hbn]
        generalize hq2 : pl lst (k + 1) = q2 at *
        have HQ2 := hide hq2
        clear hq2
        generalize fsize lst[k].2.length = fs at *
        generalize lst[k].2.length = xn at *
        generalize lst[k].1 = lt at *
        generalize x.bo = xo at *
        generalize x.bc = xc at *
        generalize x.place = pla at *
        clear egl ecur hval
        clear hj hrow hlo hd r1 r2 r3 hx1 hx2 hend hBx ok1 hH HSEQ HWK ho hT hog og heq hkg hbn hps hplx hf10 hxl HX1 HR3
        gi_wp2
        refine region_quiet_round (by kernel_rfl) (by kernel_rfl) (by kernel_rfl) ?_
        repeat (go_big_quiet_step (fail))
        refine wpQuiet_nil ?_
        intro _ hw'
        obtain ⟨nq, hw''⟩ := hw'
        subst hw''
        have TQ : Touch (fun _ => False) W ((W.drewN nq).alloc (.cells #[.slice xo xn xc] 22)) := (Touch.drewN (Touch.refl (fun _ => False) W) nq).alloc _
        have OWq := hide (own_touch OW.out TQ (fun _ _ h => h))
        have hszq := Nat.le_trans hszt TQ.size
        have c7q : (W.drewN nq).cell? ⟨B7, 0, none⟩ = some (.slice ao k c) := c7
        have d1q : (W.drewN nq).cell? ⟨Bx, 1, none⟩ = some (.slice xo xn xc) := d1
        have HTQ := hide TQ
        have hkm' := hide hkl
        clear TQ OW c7 d1 d0 tc c3
        gi_wp2_with (gi_at_builtin; refine wpListIn_append_own _ rfl (.tmp 35) (.tmp 38) 57 rfl top 22 i0 (.slice none 0 0) 1 24 Tryd.underlying57 hi hz0 hz1 hz2 rfl (by decide) _ k cur rfl OWq.out ⟨(W.drewN nq).heap.size, 0, none⟩ 1 1 [.slice xo xn xc] rfl rfl (new_cells1 _ _ _) (one_cells1 rfl) ?b1 ?b2 hszq ?nx)
        case b1 => have := hkm'.out; unfold maxLen; omega
        case b2 => have := hkm'.out; omega
        case nx =>
          intro v' w2 own2 gr2 _
          obtain ⟨g2, c2, rfl⟩ := ownsRow_succ own2
          obtain ⟨J7, b7'⟩ := HMO.out _ w2 _ HTQ.out own2 gr2
          obtain ⟨c7', f7'⟩ := one_cell b7'
          have d1' := HBX.out _ w2 (.slice (some ⟨g2, 0, none⟩) (k + 1) c2) HTQ.out gr2
          have K2 := (hKO.out _ w2 HTQ.out gr2).trans (KeepsOthers.setCell w2 ⟨B7, 0, none⟩ (.slice (some ⟨g2, 0, none⟩) (k + 1) c2))
          have J8 := J7.at8 q2
          rw [← hpe.out] at J8
          obtain ⟨c8', f8'⟩ := one_cell J7.b8
          have HJ8 := hide J8
          have HK2 := hide K2
          clear own2 gr2 J7 J8 K2 b7' HMO HBX hKO OWq hpe c7q d1q
          gi_wp2
          refine ⟨trivial, (CallsIn.inRound l (callsIn_wide.2 (FS.out _))).mono ?_⟩
          rintro e w' ⟨rfl, rfl⟩
          gi_wp2
          exact ⟨HK2.out.trans (KeepsOthers.setCell _ _ _), _, _, _, by rw [HQ2.out]; exact HJ8.out, HR1.out, HR2.out, HFN.out⟩
      · have hne : ¬ lst[k].1 = tg.xs.getD k 0 := fun e => heq e.symm
        have hne2 : (lst[k].1 == tg.xs.getD k 0) = false := by rw [beq_eq_false_iff_ne]; exact hne
        have hne3 : (lst[k].1 != tg.xs.getD k 0) = true := by rw [bne_iff_ne]; exact hne
        have HMM : Hid (k = tg.xs.length ∨ tg.xs.getD k 0 ≠ lst[k].1) := hide (.inr heq)
        obtain ⟨gl, egl⟩ : ∃ gl, gl = tg.xs.length := ⟨_, rfl⟩
        obtain ⟨tt, ett⟩ : ∃ tt, tt = tg.xs.getD k 0 := ⟨_, rfl⟩
        obtain ⟨lt, elt⟩ : ∃ lt, lt = lst[k].1 := ⟨_, rfl⟩
        rw [← ett] at tc hne hne2 hne3
        rw [← elt] at hne hne2 hne3 d0
        rw [← egl] at hE hE2 c3 HJ hgi hkgi HMM ⊢
        rw [etb] at c3 HJ ⊢
        clear egl ett elt
        clear hj hrow hlo hd r1 r2 r3 hx1 hx2 hend hBx ok1 hH HSEQ HWK ho hT hog og heq hkg
        gi_wp2
        refine region_quiet_round (by kernel_rfl) (by kernel_rfl) (by kernel_rfl) ?_
        repeat (go_big_quiet_step (fail))
        refine wpQuiet_nil ?_
        intro _ hw'
        obtain ⟨nq, hw''⟩ := hw'
        subst hw''
        have TQ := Touch.drewN (Touch.refl (fun _ => False) W) nq
        have jq := HJ.out.turn TQ (fun _ h => h.elim)
        have j4 := jq.at4 (.slice none 0 0)
        have j5 := j4.at5 (x.place : Int)
        have j6 := j5.at6 133
        obtain ⟨c4', f4'⟩ := one_cell jq.b4
        obtain ⟨c5', f5'⟩ := one_cell j4.b5
        obtain ⟨c6', f6'⟩ := one_cell j5.b6
        have HJ6 := hide j6
        have KQ := hide (((keeps_touch TQ (fun _ h => h.elim)).trans (KeepsOthers.setCell _ ⟨B4, 0, none⟩ (.slice none 0 0))).trans (KeepsOthers.setCell _ ⟨B5, 0, none⟩ (.int .i64 (x.place : Int))))
        clear jq j4 j5 j6 TQ hne hne2 hne3 tc etb c3 d0 d1 hE hE2 hkgi
        gi_wp2
        exact ⟨KQ.out.trans (KeepsOthers.setCell _ _ _), rfl, _, _, _, k, hk1, by rw [← HX1.out]; exact HJ6.out, HR3.out, HMM.out⟩
  case done =>
    rintro D W hD ⟨ao, c, ts, hj, r1, r2, r3⟩ hd
    rw [hsz] at hD
    rw [hH.place] at hj
    rw [List.take_length] at r1
    have HD := hide hd
    have HJ := hide hj
    obtain ⟨c3, _⟩ := one_cell hj.b3
    obtain ⟨c4, f4⟩ := one_cell hj.b4
    obtain ⟨c7, _⟩ := one_cell hj.b7
    obtain ⟨c8, _⟩ := one_cell hj.b8
    have n48 : B4 ≠ B8 := fun e => tags hj.b4 hj.b8 (by decide) e
    have n58 : B5 ≠ B8 := hj.hi.2.2.2.2.2.2.2.2
    have n68 : B6 ≠ B8 := fun e => tags hj.b6 hj.b8 (by decide) e
    have n47 : B4 ≠ B7 := hj.hi.2.2.2.2.2.2.2.1
    obtain ⟨c5, f5⟩ := one_cell hj.b5
    obtain ⟨c6, f6⟩ := one_cell hj.b6
    have n45 : B4 ≠ B5 := fun e => tags hj.b4 hj.b5 (by decide) e
    have n46 : B4 ≠ B6 := fun e => tags hj.b4 hj.b6 (by decide) e
    have n56 : B5 ≠ B6 := fun e => tags hj.b5 hj.b6 (by decide) e
    rcases hH.stop with ⟨he, hp⟩ | ⟨he, hee, hplt⟩
    · subst he
      have hpi : ¬ (p : Int) < (t.xs.length : Int) := by omega
      by_cases hfew : lst.length < tg.xs.length
      · have hfi : (lst.length : Int) < (tg.xs.length : Int) := by omega
        have HFEW : Hid (JSays lst p 0 t.xs.length tg.xs [] p 133) := hide (by rw [hp]; exact .few r3 rfl hfew)
        clear hp
        obtain ⟨JP, dP⟩ := just_put hj hd (.slice none 0 0) (p : Int) 133
        obtain ⟨r4, r5, r6, rt, rc⟩ := just_end JP hD dP
        have HDP := hide dP
        have EN := hide (fun V (tV : Touch (fun _ => False) w V) => (show JEnd w t.xs tg.xs (.returned (.tuple #[.slice none 0 0, .int .i64 (p : Int), .int .i64 ((133 : Nat) : Int)])) V from ⟨_, [], lst, p, 0, p, 133, rfl, Bods.nil tV, hH, HFEW.out⟩))
        clear JP dP rc
        clear hj hd ho hT hog HSEQ HWK hH
        gi_wp2
        gi_region
        gi_wp2
        refine ⟨by simp, .inl ⟨_, _, rfl, run_takeDeferred HDP.out, ?_⟩⟩
        exact ⟨.tuple #[.slice none 0 0, .int .i64 (p : Int), .int .i64 133], by simp [results, Tryd.results27, go_sem, r4, r5, r6], EN.out _ rt⟩
      · have hfi : ¬ (lst.length : Int) < (tg.xs.length : Int) := by omega
        have HALL : Hid (JSays lst p 0 t.xs.length tg.xs (ts.map Txt.xs) p 0) := hide (by rw [r1, hp]; exact .all r3 rfl hfew)
        clear hp
        obtain ⟨JP, dP⟩ := just_put hj hd (.slice ao lst.length c) (p : Int) 0
        obtain ⟨r4, r5, r6, rt, rc⟩ := just_end JP hD dP
        have HDP := hide dP
        have hlw := hj.lo.2.2.2.2.2
        have EN := hide (show JEnd w t.xs tg.xs (.returned (.tuple #[.slice ao lst.length c, .int .i64 (p : Int), .int .i64 ((0 : Nat) : Int)])) _ from ⟨_, ts, lst, p, 0, p, 0, rfl, rc.bods rt hlw, hH, HALL.out⟩)
        clear JP dP rc rt
        clear hj hd ho hT hog HSEQ HWK hH
        gi_wp2
        gi_region
        gi_wp2
        refine ⟨by simp, .inl ⟨_, _, rfl, run_takeDeferred HDP.out, ?_⟩⟩
        exact ⟨.tuple #[.slice ao lst.length c, .int .i64 (p : Int), .int .i64 0], by simp [results, Tryd.results27, go_sem, r4, r5, r6], EN.out⟩
    · have hpi : (p : Int) < (t.xs.length : Int) := by omega
      have oW := ho.touch hj.touch
      obtain ⟨u, u1, u2, u3, u4, u5⟩ := cut_l oW hc p (by omega)
      have RD := hide (read_any u W (hT.touch hj.touch (fun h => h)) u3 u4 (by rw [u2]; omega))
      rw [u1] at RD
      obtain ⟨G, hG⟩ : ∃ G, G = readF (t.xs.drop p) := ⟨_, rfl⟩
      rw [← hG] at RD hee
      rw [← u1] at RD
      have HERQ : Hid (JSays lst p er t.xs.length tg.xs [] p er) := hide (.err r3 he)
      obtain ⟨y1, y2, y3, y4⟩ := G
      simp only at hee
      subst hee
      have EN := hide (fun V (tV : Touch (fun _ => False) w V) => (show JEnd w t.xs tg.xs (.returned (.tuple #[.slice none 0 0, .int .i64 (p : Int), .int .i64 (er : Int)])) V from ⟨_, [], lst, p, er, p, er, rfl, Bods.nil tV, hH, HERQ.out⟩))
      generalize u.ao = uo at *
      generalize u.xs.length = ul at *
      generalize u.cap = uc at *
      clear u1 u2 u3 u4 oW hG hd hj ho hT hog HSEQ HWK hH c4 f4 c5 f5 c6 f6 c7 c3
      gi_wp2
      refine ⟨trivial, (callsIn_wide.2 RD.out).mono ?_⟩
      rintro e w1 ⟨bo, bn, bc, rfl, N1⟩
      simp only at N1
      have TA := N1.touch.trans ((Touch.refl (fun _ => False) w1).alloc (.cells #[.int .u8 y2, .slice bo bn bc] 36)) (fun _ _ h => h)
      have J1 := HJ.out.turn TA (fun _ h => h.elim)
      have d1 := TA.heap HD.out (fun h => h)
      obtain ⟨JP, dP⟩ := just_put J1 d1 (.slice none 0 0) (p : Int) (er : Int)
      obtain ⟨r4, r5, r6, rt, rc⟩ := just_end JP hD dP
      obtain ⟨c4, f4⟩ := one_cell J1.b4
      obtain ⟨c5, f5⟩ := one_cell J1.b5
      obtain ⟨c6, f6⟩ := one_cell J1.b6
      obtain ⟨c8', _⟩ := one_cell J1.b8
      have HDP := hide dP
      clear JP dP rc TA J1 d1 N1 RD u5 c8
      gi_wp2
      gi_region
      gi_wp2
      refine ⟨by simp, .inl ⟨_, _, rfl, run_takeDeferred HDP.out, ?_⟩⟩
      exact ⟨.tuple #[.slice none 0 0, .int .i64 (p : Int), .int .i64 (er : Int)], by simp [results, Tryd.results27, go_sem, r4, r5, r6], EN.out _ rt⟩
  case stop =>
    rintro D cc k W hD hkm ⟨rfl, v, ts, m, k', hk', hj, r3, hmm⟩ hd
    rw [hsz] at hD
    obtain ⟨r4, r5, r6, rt, rc⟩ := just_end hj hD hd
    have HD := hide hd
    have EN := hide (fun V (tV : Touch (fun _ => False) w V) => (show JEnd w t.xs tg.xs (.returned (.tuple #[.slice none 0 0, .int .i64 ((pl lst k' : Nat) : Int), .int .i64 ((133 : Nat) : Int)])) V from ⟨_, [], lst, p, er, _, 133, rfl, Bods.nil tV, hH, .tag k' hk' r3 hmm⟩))
    generalize pl lst k' = q at *
    clear hj hd hmm r3 ho hT hog HSEQ HWK hH rc
    gi_wp2
    refine ⟨by simp, .inl ⟨_, _, rfl, run_takeDeferred HD.out, ?_⟩⟩
    exact ⟨.tuple #[.slice none 0 0, .int .i64 (q : Int), .int .i64 133], by simp [results, Tryd.results27, go_sem, r4, r5, r6], EN.out _ rt⟩

end Go.Proofs.YtfeifobljgmkkaaDoor
