/- A step of a script that writes: the loan, the step's own copy, and what is written. -/
import Derived.Test.YtmmeglpglaogeaaDoorHshP
namespace Go.Proofs.YtmmeglpglaogeaaDoor
open Go.RowKit Crcx

/-- The three hashes; the loan in block gx; the copy of the step in block P7; the step's text. -/
structure Wx (w W : World) (OB : Nat) (g s l : Nat → Nat) (t : Nat → Txt) (P7 gx c : Nat) (kind fon fto : Int) (ba : Option Addr) (bc : Nat) (xs : List Int) : Prop where
  th : Th w W OB (OB + 1) g s l t
  lent : Lent W gx c xs
  op : W.heap[P7]? = some (.cells #[.int .i64 kind, .int .i64 fon, .int .i64 fto, .slice ba xs.length bc] 29 (0, 0))
  seg : Seg W .u8 ba xs

section
variable {w W W' : World} {OB : Nat} {g s l : Nat → Nat} {t : Nat → Txt} {P7 gx c : Nat} {kind fon fto : Int} {ba : Option Addr} {bc : Nat} {xs : List Int}

theorem Wx.quiet (h : Wx w W OB g s l t P7 gx c kind fon fto ba bc xs) (ht : Touch (fun _ => False) W W') : Wx w W' OB g s l t P7 gx c kind fon fto ba bc xs :=
  ⟨h.th.quiet ht, h.lent.touch ht (fun h => h), (ht.block P7 (lt_of_heap h.op) (fun h => h)).trans h.op, h.seg.touch ht (fun _ _ h => h)⟩

theorem Wx.field (h : Wx w W OB g s l t P7 gx c kind fon fto ba bc xs) : W.cell? ⟨P7, 3, none⟩ = some (.slice ba xs.length bc) := by
  rw [cell_of_row _ _ _ _ _ _ h.op]; rfl

theorem Wx.hash (h : Wx w W OB g s l t P7 gx c kind fon fto ba bc xs) {n s' l' : Nat} (hn : n < 3) (ht : Touch (fun k => k = g n) W W') (hh : Hs W' (g n) s' l') : Wx w W' OB g (upd s n s') (upd l n l') t P7 gx c kind fon fto ba bc xs := by
  obtain ⟨cur, hcur⟩ := h.lent.block
  exact ⟨h.th.hash hn ht hh, h.lent.touch ht (tags hcur (h.th.hs n hn).block (by decide)), (ht.block P7 (lt_of_heap h.op) (tags h.op (h.th.hs n hn).block (by decide))).trans h.op, (h.th.hs n hn).keep_seg ht h.seg⟩

theorem Wx.text (h : Wx w W OB g s l t P7 gx c kind fon fto ba bc xs) {n : Nat} (hn : n < 3) (t' : Txt) (ho : t'.Ok W) : Wx w (W.setCell ⟨OB + 1, n, none⟩ (.slice t'.ao t'.xs.length t'.cap)) OB g s l (upd t n t') P7 gx c kind fon fto ba bc xs := by
  have ht : Touch (fun k => k = OB + 1) W (W.setCell ⟨OB + 1, n, none⟩ (.slice t'.ao t'.xs.length t'.cap)) := (Touch.refl (fun k => k = OB + 1) W).setCell (p := ⟨OB + 1, n, none⟩) (fun _ => rfl) _
  obtain ⟨cur, hcur⟩ := h.lent.block
  refine ⟨h.th.text hn t' ho, h.lent.touch ht (tags hcur h.th.ref (by decide)), (ht.block P7 (lt_of_heap h.op) (tags h.op h.th.ref (by decide))).trans h.op, ?_⟩
  by_cases hx : xs = []
  · subst hx; exact ⟨fun _ => rfl, fun _ _ h => absurd rfl h, fun _ _ j hj => (nomatch hj)⟩
  · refine h.seg.touch ht (fun a ha e => ?_)
    obtain ⟨b', off, e2⟩ := h.seg.addr (List.length_pos_iff.2 hx)
    rw [ha] at e2
    injection e2 with e2
    subst e2
    simp only at e
    subst e
    have hcell := h.seg.cell _ ha 0 (List.length_pos_iff.2 hx)
    rw [Addr.add_lit, cell_of_row _ _ _ _ _ _ h.th.ref] at hcell
    have hm := Array.mem_def.1 (Array.mem_of_getElem? hcell)
    simp [Txt.val] at hm

/-- The two halves of the loan. -/
def halves (gx c K : Nat) (xs : List Int) : List Txt := [⟨some ⟨gx, 0, none⟩, K, xs.take K⟩, ⟨some ⟨gx, K, none⟩, c - K, xs.drop K⟩]

theorem halves_all (gx c K : Nat) (xs : List Int) : alls (halves gx c K xs) = xs := by
  simp [alls, halves]

theorem halves_ok {gx c K : Nat} {xs : List Int} (h : Lent W gx c xs) (h8 : In8 xs) (hl : xs.length ≤ 1048576) : ∀ u ∈ halves gx c K xs, u.Ok W := by
  intro u hu
  have sg := h.seg
  simp only [halves, List.mem_cons, List.not_mem_nil, or_false] at hu
  rcases hu with rfl | rfl
  · refine ⟨?_, fun z hz => h8 z (List.mem_of_mem_take hz), by simp; omega⟩
    refine ⟨fun e => (nomatch e), fun a ha _ => by injection ha with ha; subst ha; rfl, fun a ha j hj => ?_⟩
    have hj' : j < xs.length := by simp at hj; omega
    rw [sg.cell a ha j hj', List.getElem_take]
  · refine ⟨?_, fun z hz => h8 z (List.mem_of_mem_drop hz), by simp; omega⟩
    refine ⟨fun e => (nomatch e), fun a ha _ => by injection ha with ha; subst ha; rfl, fun a ha j hj => ?_⟩
    injection ha with ha
    subst ha
    have hj' : K + j < xs.length := by simp at hj; omega
    have := sg.cell _ rfl (K + j) hj'
    rw [Addr.add_lit] at this ⊢
    rw [Nat.zero_add] at this
    rw [this, List.getElem_drop]

set_option maxRecDepth 100000 in
/-- Write, on one of the three, of the loan's halves. -/
theorem write_x (h : Wx w W OB g s l t P7 gx c kind fon fto ba bc xs) {n K A b : Nat} (hn : n < 3) (hK : K ≤ xs.length) (hT : Tab w) (gd : Gd s l t b) (hb : b ≤ 1099511627776) (h8 : In8 xs) (hl : xs.length ≤ 1048576)
    (hA : W.heap[A]? = some (.cells #[.slice (some ⟨gx, 0, none⟩) K K, .slice (some ⟨gx, K, none⟩) (xs.length - K) (c - K)] 25 (0, 0))) :
    Calls Tryd.prog 7 #[.pointer (some ⟨g n, 0, none⟩), .slice (some ⟨A, 0, none⟩) 2 2] W fun e W' => e = .returned (.int .i64 0) ∧ Wx w W' OB g (upd s n (more (s n) (nats xs))) (upd l n (l n + xs.length)) t P7 gx c kind fon fto ba bc xs := by
  have hs0 : s n < 4294967296 := by rw [gd.sum n hn]; exact more_lt (by omega) (nats_lt (h.th.ok n hn).in8)
  have hv : (halves gx c K xs).map Txt.val = [.slice (some ⟨gx, 0, none⟩) K K, .slice (some ⟨gx, K, none⟩) (xs.length - K) (c - K)] := by
    simp only [halves, List.map_cons, List.map_nil, Txt.val, List.length_take, List.length_drop]
    rw [Nat.min_eq_left hK]
  have sv : SegV W (some ⟨A, 0, none⟩) ((halves gx c K xs).map Txt.val) := segV_of hA (by rw [hv])
  have wa := write_any (g n) (s n) (l n) (some ⟨A, 0, none⟩) (halves gx c K xs) 2 W hs0 (h.th.hs n hn) (hT.touch h.th.touch (fun h => h)) sv (halves_ok h.lent h8 hl) (by simp [halves]) ⟨by
    rw [halves_all, gd.len n hn]
    have := gd.le n hn
    omega⟩
  rw [halves_all] at wa
  refine wa.mono ?_
  rintro e W' ⟨rfl, hh, ht⟩
  exact ⟨rfl, h.hash hn ht hh⟩

/-- The loan is written over: nothing else is touched. -/
theorem Th.spoil {RB : Nat} (h : Th w W OB RB g s l t) {cur : Array Value} {f : Nat × Nat} (hcur : W.heap[gx]? = some (.cells cur 5 f)) (ht : Touch (fun k => k = gx) W W') (hlo : w.heap.size ≤ gx) (hx : ∀ i, i < 3 → ∀ a, (t i).ao = some a → (t i).xs ≠ [] → a.block ≠ gx) : Th w W' OB RB g s l t := by
  refine ⟨(ht.block OB (lt_of_heap h.own) (tags h.own hcur (by decide))).trans h.own, (ht.block RB (lt_of_heap h.ref) (tags h.ref hcur (by decide))).trans h.ref, fun i hi => (h.hs i hi).touch ht (tags (h.hs i hi).block hcur (by decide)), h.apart, fun i hi => ⟨?_, (h.ok i hi).in8, (h.ok i hi).len⟩, h.lo, h.touch.trans ht (fun k hk e => by omega)⟩
  by_cases he : (t i).xs = []
  · rw [he]; exact ⟨fun _ => rfl, fun _ _ h => absurd rfl h, fun _ _ j hj => (nomatch hj)⟩
  · exact (h.ok i hi).seg.touch ht (fun a ha => hx i hi a ha he)
end

/-- Two appends onto memory that is new: nothing that was there is touched, and what comes out is new. -/
theorem two_grew {w wa wb wx : World} {u v x : Value} (ht : Touch (fun _ => False) w wa) (hu : ∀ k, u.ownBlock = some k → w.heap.size ≤ k) (h1 : Grew wa u wb v) (h2 : Grew wb v wx x) : Touch (fun _ => False) w wb ∧ Touch (fun _ => False) w wx ∧ ∀ k, x.ownBlock = some k → w.heap.size ≤ k := by
  have s1 := ht.size
  have s2 := h1.touch.size
  have hv : ∀ k, v.ownBlock = some k → w.heap.size ≤ k := fun k hk => by
    rcases h1.fresh with e | ⟨n, e, hn⟩
    · exact hu k (e ▸ hk)
    · rw [e] at hk; injection hk with hk; omega
  have t1 : Touch (fun _ => False) w wb := ht.trans h1.touch (fun k hk hs => by have := hu k hs; omega)
  refine ⟨t1, t1.trans h2.touch (fun k hk hs => by have := hv k hs; omega), fun k hk => ?_⟩
  rcases h2.fresh with e | ⟨n, e, hn⟩
  · exact hv k (e ▸ hk)
  · rw [e] at hk; injection hk with hk; omega

theorem one_grew {w wa wb : World} {u v : Value} (ht : Touch (fun _ => False) w wa) (hu : ∀ k, u.ownBlock = some k → w.heap.size ≤ k) (h1 : Grew wa u wb v) : Touch (fun _ => False) w wb := (two_grew ht hu h1 (Grew.refl _ _)).1

/-- The new text is put into the row. -/
theorem Wx.grown {w W W6 : World} {OB : Nat} {g s l : Nat → Nat} {t : Nat → Txt} {P7 gx c : Nat} {kind fon fto : Int} {ba : Option Addr} {bc : Nat} {xs : List Int} (h : Wx w W OB g s l t P7 gx c kind fon fto ba bc xs) {n n6 c6 : Nat} {ao6 : Option Addr} (hn : n < 3) (ht : Touch (fun _ => False) W W6) (hr : Row W6 5 .u8 (.slice ao6 n6 c6) ((t n).xs ++ xs)) (hb : ∀ k, (Value.slice ao6 n6 c6).ownBlock = some k → W.heap.size ≤ k) (h8 : In8 xs) (hl : (t n).xs.length + xs.length ≤ 281474976710656) :
    Wx w (W6.setCell ⟨OB + 1, n, none⟩ (.slice ao6 n6 c6)) OB g s l (upd t n ⟨ao6, c6, (t n).xs ++ xs⟩) P7 gx c kind fon fto ba bc xs ∧ ∀ a, ao6 = some a → a.block ≠ gx := by
  have e := hr.len
  subst e
  refine ⟨(h.quiet ht).text hn ⟨ao6, c6, (t n).xs ++ xs⟩ ⟨Seg.of_row hr, fun z hz => ?_, by simpa using hl⟩, fun a ha => ?_⟩
  · rcases List.mem_append.1 hz with h1 | h1
    · exact (h.th.ok n hn).in8 z h1
    · exact h8 z h1
  · rcases hr.form with ⟨hv, _⟩ | ⟨g', cap', cur, hv, _⟩
    · injection hv with hv _ _
      rw [hv] at ha; cases ha
    · injection hv with hv _ _
      subst hv
      injection ha with ha
      subst ha
      have h1 := hb g' rfl
      obtain ⟨cur', hc⟩ := h.lent.block
      have h2 := lt_of_heap hc
      show g' ≠ gx
      omega

theorem txt_lt {W : World} {u : Txt} (h : u.Ok W) {a : Addr} (ha : u.ao = some a) (hx : u.xs ≠ []) : a.block < W.heap.size := by
  obtain ⟨b, off, e⟩ := h.seg.addr (List.length_pos_iff.2 hx)
  rw [ha] at e
  injection e with e
  subst e
  have := h.seg.cell _ ha 0 (List.length_pos_iff.2 hx)
  rw [Addr.add_lit] at this
  exact lt_of_cell this

theorem Lent.room {W : World} {gx c : Nat} {xs : List Int} (h : Lent W gx c xs) : ∃ cur, W.heap[gx]? = some (.cells cur 5 (0, 0)) ∧ xs.length ≤ cur.size := by
  rcases h.row.form with ⟨hv, _⟩ | ⟨g', cap', cur, hv, hc, h1, _, h3, _⟩
  · cases hv
  · injection hv with hv _ _
    injection hv with hv
    injection hv with hv _ _
    subst hv
    refine ⟨cur, hc, ?_⟩
    rw [h3]
    simp at h1
    omega

/-- The loan is written over, and all is as it was. -/
theorem Wx.after {w wr W W' : World} {OB : Nat} {g s s' l l' : Nat → Nat} {t : Nat → Txt} {P7 gx c n : Nat} {kind fon fto : Int} {ba ta : Option Addr} {bc tc : Nat} {xs ys : List Int} (h0 : Th w wr OB (OB + 1) g s l t) (h : Wx w W OB g s' l' (upd t n ⟨ta, tc, ys⟩) P7 gx c kind fon fto ba bc xs) (hg : wr.heap.size < gx) (hb : ∀ a, ta = some a → a.block ≠ gx) (ht : Touch (fun k => k = gx) W W') : Th w W' OB (OB + 1) g s' l' (upd t n ⟨ta, tc, ys⟩) := by
  obtain ⟨cur, hc, _⟩ := h.lent.room
  refine h.th.spoil hc ht (by have := h0.touch.size; omega) (fun i hi a ha hx => ?_)
  by_cases e : i = n
  · subst e; rw [upd_self] at ha; exact hb a ha
  · rw [upd_ne _ _ e] at ha hx
    have := txt_lt (h0.ok i hi) ha hx
    omega

theorem half (L : Nat) (h : L ≤ 1048576) : ∃ K : Nat, wrap64 ((L : Int) / 2) = (K : Int) ∧ K ≤ L := ⟨L / 2, by unfold wrap64; omega, by omega⟩

theorem nats_app (xs ys : List Int) : nats (xs ++ ys) = nats xs ++ nats ys := by unfold nats; rw [List.map_append]

theorem gd_write {s l : Nat → Nat} {t : Nat → Txt} {k n : Nat} {ta : Option Addr} {tc : Nat} {xs : List Int} (h : Gd s l t (k * 1048576)) (hn : n < 3) (hl : xs.length ≤ 1048576) : Gd (upd s n (more (s n) (nats xs))) (upd l n (l n + xs.length)) (upd t n ⟨ta, tc, (t n).xs ++ xs⟩) ((k + 1) * 1048576) := by
  have := (h.mono (Nat.mul_le_mul_right _ (Nat.le_succ k))).put (n := n) ⟨ta, tc, (t n).xs ++ xs⟩ (by
    have := h.le n hn
    simp only [List.length_append]
    rw [Nat.succ_mul]
    omega)
  simp only at this
  rw [nats_app, more_append, ← h.sum n hn, List.length_append, ← h.len n hn] at this
  exact this

end Go.Proofs.YtmmeglpglaogeaaDoor
