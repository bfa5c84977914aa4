/- The program's lay: a frame is laid behind bytes. -/
import Derived.Test.YtfeifobljgmkkaaDoorFrm
namespace Go.Proofs.YtfeifobljgmkkaaDoor
open Go.RowKit Crcx

theorem cells2 {w : World} {b : Nat} {u v : Value} {t : TypeId} (h : w.heap[b]? = some (.cells #[u, v] t (0, 0))) : w.cell? ⟨b, 0, none⟩ = some u ∧ w.cell? ⟨b, 1, none⟩ = some v := by simp [World.cell?, h]

theorem lt_of_heap {w : World} {g : Nat} {o : Obj} (h : w.heap[g]? = some o) : g < w.heap.size := (Array.getElem?_eq_some_iff.1 h).1

theorem Touch.heap {S : Nat → Prop} {w w' : World} (ht : Touch S w w') {g : Nat} {o : Obj} (h : w.heap[g]? = some o) (hn : ¬ S g) : w'.heap[g]? = some o := (ht.block g (lt_of_heap h) hn).trans h

theorem four8_src {P : Program} {tx e' : TypeId} (hk : P.underlying tx = some (.slice e')) (w : World) (g s : Nat) (t : TypeId) (h : w.heap[g]? = some (.cells (four8 s) t (0, 0))) : Src P 1 tx (.slice (some ⟨g, 0, none⟩) 4 4) (sum4 s).length ((sum4 s).map (Value.int .u8)) w :=
  (seg_of (xs := sum4 s) h rfl).src hk 4

theorem Seg.touch1 {S : Nat → Prop} {w w' : World} {k : IntKind} {ao : Option Addr} {xs : List Int} (h : Seg w k ao xs) (ht : Touch S w w') (hn : ∀ a, ao = some a → xs ≠ [] → ¬ S a.block) : Seg w' k ao xs := by
  by_cases hx : xs = []
  · subst hx
    exact ⟨fun _ => rfl, fun _ _ h => absurd rfl h, fun _ _ j hj => absurd hj (by simp)⟩
  · exact h.touch ht fun a ha => hn a ha hx

theorem tags {w : World} {g h : Nat} {c c' : Array Value} {t t' : TypeId} {f f' : Nat × Nat} (a : w.heap[g]? = some (.cells c t f)) (b : w.heap[h]? = some (.cells c' t' f')) (ht : t ≠ t') : g ≠ h := by
  intro e; subst e; rw [a] at b; injection b with b; injection b with _ h2 _; exact ht h2

/-- What another row's growing leaves. -/
theorem Grew.other {w w' : World} {v v' : Value} (h : Grew w v w' v') {k : Nat} (hk : k < w.heap.size) (hv : v.ownBlock ≠ some k) : v'.ownBlock ≠ some k ∧ w'.heap[k]? = w.heap[k]? := by
  refine ⟨?_, h.touch.block k hk hv⟩
  rcases h.fresh with e | ⟨g, e, hg⟩
  · rw [e]; exact hv
  · rw [e]; intro e'; injection e' with e'; omega

theorem Seg.lt {w : World} {k : IntKind} {ao : Option Addr} {xs : List Int} (hs : Seg w k ao xs) (a : Addr) (ha : ao = some a) (hx : xs ≠ []) : a.block < w.heap.size := by
  obtain ⟨b, off, e⟩ := hs.addr (List.length_pos_iff.2 hx)
  rw [ha] at e; injection e with e; subst e; subst ha
  exact lt_of_cell (hs.at 0 (List.length_pos_iff.2 hx))

theorem Seg.grew {w w' : World} {v v' : Value} {k : IntKind} {ao : Option Addr} {xs : List Int} (hs : Seg w k ao xs) (h : Grew w v w' v') (hap : ∀ a, ao = some a → xs ≠ [] → v.ownBlock ≠ some a.block) : Seg w' k ao xs ∧ ∀ a, ao = some a → xs ≠ [] → v'.ownBlock ≠ some a.block :=
  ⟨hs.touch1 h.touch hap, fun a ha hx => (h.other (hs.lt a ha hx) (hap a ha hx)).1⟩

/-- A writer that was made behind w. -/
structure Made (w w1 : World) (pb : Nat) (v : Value) (bs : List Int) : Prop where
  wr : Wr w1 pb v bs
  touch : Touch (fun _ => False) w w1
  lo : w.heap.size ≤ pb
  vlo : ∀ g, v.ownBlock = some g → w.heap.size ≤ g

theorem Made.next {w w1 w2 : World} {pb : Nat} {v v' : Value} {bs bs' : List Int} (h : Made w w1 pb v bs) (wr : Wr w2 pb v' bs') (wt : Wrote w1 pb v w2 v') : Made w w2 pb v' bs' := by
  refine ⟨wr, h.touch.trans wt.touch (fun k hk hh => ?_), h.lo, fun g hg => ?_⟩
  · rcases hh with rfl | hh
    · have := h.lo; omega
    · have := h.vlo k hh; omega
  · rcases wt.fresh with e | ⟨g', e, hg'⟩
    · exact h.vlo g (by rw [← e]; exact hg)
    · rw [hg] at e; injection e with e; subst e; exact Nat.le_trans h.touch.size hg'

theorem Made.keep {w w1 w2 : World} {pb : Nat} {v v' : Value} {bs : List Int} (h : Made w w1 pb v bs) (wt : Wrote w1 pb v w2 v') {g : Nat} {c : Array Value} {f : Nat × Nat} (hg : w1.heap[g]? = some (.cells c 36 f)) : w2.heap[g]? = some (.cells c 36 f) := by
  refine wt.touch.heap hg ?_
  rintro (rfl | hh)
  · exact tags hg h.wr.cell (by decide) rfl
  · obtain ⟨cur, hc⟩ := h.wr.row.block hh
    exact tags hg hc (by decide) rfl

theorem in8_one {x : Int} (h : 0 ≤ x ∧ x ≤ 255) : In8 [x] := fun y hy => by simp at hy; subst hy; exact h

theorem in8_numb (n : Nat) : In8 (numb n) := fun b hb => numb_bytes n n (Nat.le_refl _) b hb

theorem in8_append {xs ys : List Int} (h : In8 xs) (g : In8 ys) : In8 (xs ++ ys) := fun x hx => by
  rcases List.mem_append.1 hx with hx | hx
  · exact h x hx
  · exact g x hx

theorem sum4_len (s : Nat) : (sum4 s).length = 4 := rfl

set_option maxRecDepth 100000 in
set_option maxHeartbeats 1000000 in
theorem lay_any (v : Value) (bs : List Int) (tag : Int) (t : Txt) (w : World) (hT : Tab w) (hr : Row w 5 .u8 v bs) (ho : t.Ok w) (h8 : 0 ≤ tag ∧ tag ≤ 255) (hn : t.xs.length ≤ 268435456) (hb : bs.length + t.xs.length ≤ 140737488340000)
    (hap : ∀ a, t.ao = some a → t.xs ≠ [] → v.ownBlock ≠ some a.block) :
    Calls Tryd.prog 32 #[v, .agg #[.int .u8 tag, t.val]] w (RetRow 5 .u8 w v (bs ++ frm tag t.xs)) := by
  obtain ⟨ao, cap, xs⟩ := t
  simp only [Txt.val] at *
  obtain ⟨vo, vn, vc, rfl⟩ := hr.shape
  have h5 := numb5 hn
  have hwr : IntKind.u64.wrap (xs.length : Int) = ((xs.length : Nat) : Int) := by rw [IntKind.wrap_u64]; omega
  go_enter Tryd.func32, Tryd.ntmps32
  go_wp2_with fail
  have T0 : Touch (fun _ => False) w (w.alloc (.cells #[.int .u8 tag, .slice ao xs.length cap] 36)) := (Touch.refl _ _).alloc _
  have B0 : (w.alloc (.cells #[.int .u8 tag, .slice ao xs.length cap] 36)).heap[w.heap.size]? = some (.cells #[.int .u8 tag, .slice ao xs.length cap] 36 (0, 0)) := heap_alloc_last w _
  generalize w.alloc (.cells #[.int .u8 tag, .slice ao xs.length cap] 36) = w0 at *
  have hg0 : w.heap.size ≤ w.heap.size := Nat.le_refl _
  generalize hgg : w.heap.size = g0 at B0 ⊢
  refine (newWriter_any w0).mono ?_
  rintro e w1 ⟨rfl, hW1, t1, l1⟩
  have B1 := t1.heap B0 (fun h => h)
  have M1 : Made w w1 w0.heap.size (.slice none 0 0) [] := ⟨hW1, T0.trans t1 (fun _ _ h => h), T0.size, fun g hg => by simp [Value.ownBlock] at hg⟩
  generalize w0.heap.size = pb at *
  obtain ⟨c0, c1⟩ := cells2 B1
  clear hW1 t1 l1 T0 B0 w0
  go_wp2_with fail
  refine (wByte_any pb (.slice none 0 0) [] (some ⟨w1.heap.size, 0, none⟩) [tag] 1 _ (seg_of (heap_alloc_last w1 _) rfl) (by simp) (M1.wr.alloc _)).mono ?_
  rintro e w2 ⟨rfl, v2, hW2, r2⟩
  have B2 := M1.keep (r2.of_alloc _) B1
  have M2 := M1.next hW2 (r2.of_alloc _)
  obtain ⟨c2, c3⟩ := cells2 B2
  clear M1 B1 c0 c1 hW2 r2
  go_wp2_with fail
  refine (wNumber_any pb v2 [tag] xs.length w2 (by omega) M2.wr (by simp)).mono ?_
  rintro e w3 ⟨rfl, v3, hW3, r3⟩
  have B3 := M2.keep r3 B2
  obtain ⟨hd, hhd⟩ : ∃ hd : List Int, hd = tag :: numb xs.length := ⟨_, rfl⟩
  have M3 : Made w w3 pb v3 hd := by rw [hhd]; exact M2.next hW3 r3
  have hhl : hd.length ≤ 6 := by rw [hhd]; simp; omega
  have h84 : In8 hd := by rw [hhd]; exact in8_append (in8_one h8) (in8_numb _)
  have HH := hide hhd
  obtain ⟨c4, c5⟩ := cells2 B3
  clear M2 B2 c2 c3 hW3 r3 hhd
  go_wp2_with fail
  refine (wBytes_any pb v3 hd w3 M3.wr (by omega)).mono ?_
  rintro e w4 ⟨n4, k4, rfl, R4, t4, l4⟩
  have hn4 := R4.len
  subst hn4
  have B4 := t4.heap B3 (fun h => h)
  have T4 := M3.touch.trans t4 (fun _ _ h => h)
  have hlo4 : w.heap.size ≤ w3.heap.size := M3.touch.size
  generalize w3.heap.size = g4 at *
  obtain ⟨c6, c7⟩ := cells2 B4
  have o4 := ho.touch T4
  have tab4 := hT.touch T4 (fun h => h)
  clear M3 B3 c4 c5 t4
  go_wp2_with fail
  have oh : (Txt.mk (some ⟨g4, 0, none⟩) k4 hd).Ok w4 := ⟨Seg.of_row R4, h84, by simp only; omega⟩
  obtain ⟨s, hs⟩ : ∃ s, s = more 0 (nats (summed tag xs)) := ⟨_, rfl⟩
  have hslt : s < 4294967296 := by
    rw [hs]; exact more_lt (by omega) (nats_lt (by unfold summed; rw [← HH.out]; exact in8_append h84 ho.in8))
  refine (sum_row w4 tab4 [⟨some ⟨g4, 0, none⟩, k4, hd⟩, ⟨ao, cap, xs⟩] (fun t ht => by
    rcases List.mem_cons.1 ht with rfl | ht
    · exact oh
    · obtain rfl := List.mem_singleton.1 ht; exact o4) (by simp) 2 rfl s (by rw [hs]; unfold alls summed; rw [← HH.out]; simp) _ rfl).mono ?_
  rintro e w5 ⟨rfl, tab5, t5⟩
  have HS := hide hs
  clear hs
  go_wp2_with fail
  refine (bytes_any s hslt w5).mono ?_
  rintro e w6 ⟨rfl, t6⟩
  have t46 := t5.trans t6 (fun _ _ h => h)
  have B6 := t46.heap B4 (fun h => h)
  have T6 := T4.trans t46 (fun _ _ h => h)
  have R6 := R4.touch t46 (fun _ _ h => h)
  have l6 : g4 < w6.heap.size := Nat.lt_of_lt_of_le l4 t46.size
  have hi4 : (Tryd.prog.info? 84).map (·.size) = some (four8 s).size := by kernel_rfl
  have ho4 : (four8 s).all (·.oneCell') = true := by simp [four8, Value.oneCell']
  have t67 : Touch (fun _ => False) w6 ((w6.alloc (.cells #[.int .u8 0, .int .u8 0, .int .u8 0, .int .u8 0] 84)).setRow w6.heap.size (four8 s)) := ((Touch.refl _ _).alloc _).setRow _ (fun h => by omega)
  have b7 := setRow_heap _ w6.heap.size _ (four8 s) 84 (0, 0) (heap_alloc_last w6 (.cells #[.int .u8 0, .int .u8 0, .int .u8 0, .int .u8 0] 84))
  have B7 := t67.heap B6 (fun h => h)
  have T7 := T6.trans t67 (fun _ _ h => h)
  have R7 := R6.touch t67 (fun _ _ h => h)
  have l7 : w6.heap.size < ((w6.alloc (.cells #[.int .u8 0, .int .u8 0, .int .u8 0, .int .u8 0] 84)).setRow w6.heap.size (four8 s)).heap.size := lt_of_heap b7
  have lo7 : w.heap.size ≤ w6.heap.size := T6.size
  have hr7 := hr.touch T7 (fun _ _ h => h)
  have o7 := (ho.touch T7).seg
  have hvlt : ∀ k, (Value.slice vo vn vc).ownBlock = some k → k < w.heap.size := fun k hk => hr.lt hk
  have hLB : bs.length + hd.length + xs.length + 4 ≤ 140737488351232 := by omega
  obtain ⟨i0, hi, hz0, hz1, hz2⟩ := info_parts Tryd.info5
  clear B4 c6 c7 o4 tab4 tab5 t5 t6 R4 l4 T4 oh B6 T6 R6 t46 ho hr hT hslt
  go_wp2_with (first | refine wpList_store_all rfl rfl 84 (.tmp 7) (.tmp 27) rfl w6.heap.size (four8 s) rfl rfl 84 _ (heap_alloc_last w6 _) hi4 rfl ho4 ?_ | (at_builtin; refine wpList_append_row _ rfl (.tmp 28) (.tmp 29) 22 22 rfl 5 i0 (.int .u8 0) .u8 1 Tryd.underlying22 hi hz0 hz1 hz2 rfl _ bs rfl hr7 _ hd rfl ((Seg.of_row R7).src Tryd.underlying22 _) ?b1 ?b2 ?nx))
  case b1 => unfold maxLen; omega
  case b2 => omega
  case nx =>
    intro ao8 n8 c8 w8 R8 G8
    generalize ((w6.alloc (.cells #[.int .u8 0, .int .u8 0, .int .u8 0, .int .u8 0] 84)).setRow w6.heap.size (four8 s)) = w7 at *
    have hg0lt : g0 < w7.heap.size := lt_of_heap B7
    have vg0 : (Value.slice vo vn vc).ownBlock ≠ some g0 := fun h => by have := hvlt g0 h; omega
    have vg6 : (Value.slice vo vn vc).ownBlock ≠ some w6.heap.size := fun h => by have := hvlt _ h; omega
    have G0 := G8.other hg0lt vg0
    have G6 := G8.other l7 vg6
    have B8 := G0.2.trans B7
    have b8 := G6.2.trans b7
    have o8 := o7.grew G8 hap
    generalize w6.heap.size = g6 at *
    obtain ⟨c8', c9⟩ := cells2 B8
    have l8 := lt_of_heap b8
    have hg8 := Grew.trans ⟨T7.mono (fun _ _ h => h.elim), .inl rfl⟩ G8
    clear B7 b7 o7 G8 R7 t67 T7 hvlt vg0 vg6 hr7 hg0lt l7 lo7 c8'
    go_wp2_with (at_builtin; refine wpList_append_row _ rfl (.tmp 31) (.tmp 33) 22 22 rfl 5 i0 (.int .u8 0) .u8 1 Tryd.underlying22 hi hz0 hz1 hz2 rfl _ (bs ++ hd) rfl R8 _ xs rfl (o8.1.src Tryd.underlying22 _) ?b3 ?b4 ?nx2)
    case b3 => unfold maxLen; rw [List.length_append]; omega
    case b4 => rw [List.length_append]; omega
    case nx2 =>
      intro ao9 n9 c9' w9 R9 G9
      have b9 := (G9.other l8 G6.1).2.trans b8
      have hg9 := hg8.trans G9
      have S9 := four8_src (P := Tryd.prog) Tryd.underlying22 w9 g6 s _ b9
      clear B8 b8 G0 G6 o8 G9 hg8 c9 R8
      go_wp2_with (at_builtin; refine wpList_append_row _ rfl (.tmp 35) (.tmp 36) 22 22 rfl 5 i0 (.int .u8 0) .u8 1 Tryd.underlying22 hi hz0 hz1 hz2 rfl _ (bs ++ (hd ++ xs)) rfl R9 _ (sum4 s) rfl S9 ?b5 ?b6 ?nx3)
      case b5 => unfold maxLen; rw [List.length_append, List.length_append, sum4_len]; omega
      case b6 => rw [List.length_append, List.length_append, sum4_len]; omega
      case nx3 =>
        intro ao10 n10 c10 w10 R10 G10
        go_wp2_with fail
        go_ret
        refine RetRow.mk ?_ (hg9.trans G10)
        have e : bs ++ (hd ++ xs) ++ sum4 s = bs ++ frm tag xs := by
          unfold frm; rw [← HS.out]; unfold summed; rw [← HH.out]; simp
        rw [← e]; first | exact R10 | simpa using R10

end Go.Proofs.YtfeifobljgmkkaaDoor
