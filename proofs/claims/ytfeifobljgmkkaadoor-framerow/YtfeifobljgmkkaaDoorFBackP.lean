/- Lists of blocks, one behind the other; a frame that is cut off. -/
import Derived.Test.YtfeifobljgmkkaaDoorFBlk
import Derived.Laws.AppendOwnNone
namespace Go.Proofs.YtfeifobljgmkkaaDoor
open Go.RowKit Crcx

theorem blk_len (bl : List Blk) : (bl.flatMap Blk.cells).length = bl.length * 2 := by
  induction bl with
  | nil => rfl
  | cons x bl ih =>
    have e : (x :: bl).flatMap Blk.cells = .int .u8 x.tag :: x.t.val :: bl.flatMap Blk.cells := rfl
    rw [e, List.length_cons, List.length_cons, ih, List.length_cons]; omega

theorem blk_one (bl : List Blk) : ∀ u ∈ bl.flatMap Blk.cells, u.oneCell' = true := fun u hu => by
  obtain ⟨x, _, hx⟩ := List.mem_flatMap.1 hu
  simp only [Blk.cells, List.mem_cons, List.not_mem_nil, or_false] at hx
  rcases hx with rfl | rfl <;> rfl

theorem SegB.cells {w : World} {ad : Addr} {bl : List Blk} (h : SegB w (some ad) bl) : ∀ (j : Nat) (u : Value), (bl.flatMap Blk.cells)[j]? = some u → w.cell? (ad.add j) = some u := fun j u hu => by
  have hj : j < bl.length * 2 := by
    have := (List.getElem?_eq_some_iff.1 hu).1
    rwa [blk_len] at this
  obtain ⟨b, off, e⟩ := h.addr (by omega)
  injection e with e; subst e
  have hi : j / 2 < bl.length := by omega
  obtain ⟨f1, f2⟩ := flat_at bl (j / 2) hi
  obtain ⟨c1, c2⟩ := h.cell b off rfl (j / 2) hi
  rw [Addr.add_lit]
  by_cases h2 : j % 2 = 0
  · have e1 : j / 2 * 2 = j := by omega
    rw [e1] at f1 c1
    rw [hu] at f1; rw [f1]; exact c1
  · have e1 : j / 2 * 2 + 1 = j := by omega
    rw [e1] at f2
    rw [show off + j / 2 * 2 + 1 = off + j by omega] at c2
    rw [hu] at f2; rw [f2]; exact c2

/-- Blocks in a row of their own whose bodies lie where they lay. -/
theorem segB_own {wr : World} {base : Nat} {ao : Option Addr} {n c : Nat} {bl : List Blk} (hown : wr.ownsRow base 36 2 (.slice ao n c) bl.length (bl.flatMap Blk.cells)) (hok : ∀ x ∈ bl, x.Ok wr) : SegB wr ao bl := by
  refine ⟨fun hl => ?_, fun b off e i hi => ?_, hok⟩
  · rcases hown.2 with ⟨_, h0⟩ | ⟨g, cap, cur, e, _⟩
    · omega
    · injection e with e1 _ _; exact ⟨g, 0, e1⟩
  · obtain ⟨f1, f2⟩ := flat_at bl i hi
    subst e
    rcases hown.2 with ⟨e, h0⟩ | ⟨g, cap, cur, e, _⟩
    · omega
    · injection e with e1 _ _; injection e1 with e1; injection e1 with e1 e2 _
      subst e1 e2
      have hcells := hown.cells (g := b) rfl
      have a1 := hcells _ _ f1
      have a2 := hcells _ _ f2
      rw [Addr.add_lit] at a1 a2
      refine ⟨by simpa using a1, ?_⟩
      rw [Nat.zero_add] at a2
      rw [Nat.zero_add]; exact a2

theorem own_shape {w : World} {base n : Nat} {e : TypeId} {v : Value} {xs : List Value} (h : w.ownsRow base e 2 v n xs) : ∃ ao c, v = .slice ao n c := by
  rcases h.2 with ⟨rfl, rfl⟩ | ⟨g, cap, cur, rfl, _⟩
  · exact ⟨none, 0, rfl⟩
  · exact ⟨_, _, rfl⟩

/-- Blocks appended to blocks in a row of their own. -/
theorem wpList_append_blks (w : World) {ops : Array Oper} {rest : List Oper} {o : Oper} {a : Act} {Q : Exit → Act → World → Prop} (hgd : o.guard = none) (s x : Operand)
    (ho : o.op = .call { callee := .builtin .append, args := #[s, x], argTypes := #[34, 34] })
    (base : Nat) (v : Value) (xl : List Blk) (hs : a.eval s = v) (hown : w.ownsRow base 36 2 v xl.length (xl.flatMap Blk.cells))
    (ao : Option Addr) (m cap : Nat) (bl : List Blk) (hx : a.eval x = .slice ao m cap) (hm : m = bl.length) (hB : SegB w ao bl) (hc : ao = none → cap = 0) (hb : xl.length + bl.length ≤ 4194304) (hbase : base ≤ w.heap.size)
    (h : ∀ ao' N c' w', N = (xl ++ bl).length → w'.ownsRow base 36 2 (.slice ao' N c') (xl ++ bl).length ((xl ++ bl).flatMap Blk.cells) → Touch (fun k => v.ownBlock = some k) w w' → wpList Tryd.prog ops Q rest (a.put o.dst (.slice ao' N c')) w') : wpList Tryd.prog ops Q (o :: rest) a w := by
  obtain ⟨i0, hi, hz0, hz1, hz2⟩ := info_parts2 infoBlk
  subst hm
  cases ao with
  | none =>
    have hbl : bl = [] := by
      by_cases h0 : 0 < bl.length
      · obtain ⟨b, off, e⟩ := hB.addr h0; exact nomatch e
      · exact List.length_eq_zero_iff.1 (by omega)
    subst hbl
    rw [hc rfl] at hx
    refine wpList_append_own_none hgd s x 34 ho base 36 i0 2 Tryd.underlying34 hi v _ _ hs hown hx ?_
    obtain ⟨vo, vc, rfl⟩ := own_shape hown
    rw [List.append_nil] at h
    exact h _ _ _ _ rfl hown (Touch.refl _ _)
  | some ad =>
    refine wpList_append_own w hgd s x 34 ho base 36 i0 (.agg #[.int .u8 0, .slice none 0 0]) 2 32 Tryd.underlying34 hi hz0 hz1 hz2 (by rfl) (by omega) v _ _ hs hown ad bl.length cap _ hx (blk_len bl) hB.cells (blk_one bl) (by unfold maxLen; omega) (by omega) hbase fun v' w' h1 h2 _ => ?_
    obtain ⟨vo, vc, rfl⟩ := own_shape h1
    rw [← List.length_append, ← List.flatMap_append] at h1
    rw [← List.length_append]
    exact h _ _ _ _ rfl h1 (Touch.of_grownBy h2)

/-- Two lists of blocks put into a row of their own. -/
structure Both (w w' : World) (ao : Option Addr) (N c : Nat) (bl : List Blk) : Prop where
  len : N = bl.length
  seg : SegB w' ao bl
  touch : Touch (fun _ => False) w w'

theorem both_of {w w1 w2 : World} {ao1 ao2 : Option Addr} {N1 N2 c1 c2 : Nat} {A B : List Blk} (hA : ∀ x ∈ A, x.Ok w) (hB : ∀ x ∈ B, x.Ok w)
    (h1 : w1.ownsRow w.heap.size 36 2 (.slice ao1 N1 c1) A.length (A.flatMap Blk.cells)) (t1 : Touch (fun k => (Value.slice none 0 0).ownBlock = some k) w w1)
    (hN : N2 = A.length + B.length) (h2 : w2.ownsRow w.heap.size 36 2 (.slice ao2 N2 c2) (A.length + B.length) (A.flatMap Blk.cells ++ B.flatMap Blk.cells)) (t2 : Touch (fun k => (Value.slice ao1 N1 c1).ownBlock = some k) w1 w2) : Both w w2 ao2 N2 c2 (A ++ B) := by
  have T1 : Touch (fun _ => False) w w1 := t1.mono (fun k _ h => by simp [Value.ownBlock] at h)
  have T2 : Touch (fun _ => False) w w2 := T1.trans t2 (fun k hk e => by have := (own_block h1 e).1; omega)
  rw [← List.length_append] at hN h2
  rw [← List.flatMap_append] at h2
  exact ⟨hN, segB_own h2 (fun x hx => by
    rcases List.mem_append.1 hx with hx | hx
    · exact ⟨(hA x hx).tag, (hA x hx).t.touch T2⟩
    · exact ⟨(hB x hx).tag, (hB x hx).t.touch T2⟩), T2⟩

/-- A frame whose last byte is cut off is too short. -/
theorem readF_cut {tag : Int} {body : List Int} (hn : body.length ≤ 268435456) : readF ((frm tag body).take ((frm tag body).length - 1)) = ⟨130, 0, [], 0⟩ := by
  have hl := frm_len tag body
  have h6 := fsize_lt body.length
  have e0 : (frm tag body).take ((frm tag body).length - 1) = summed tag body ++ (sum4 (more 0 (nats (summed tag body)))).take 3 := by
    have hs := summed_len tag body
    rw [hl]
    unfold frm
    rw [List.take_append, List.take_of_length_le (by rw [hs]; omega), hs]
    congr 2
    omega
  have e1 : lenF (((frm tag body).take ((frm tag body).length - 1)).drop 1) = (body.length, 0) := by
    rw [e0]
    unfold summed
    simp only [List.cons_append, List.drop_succ_cons, List.drop_zero, List.append_assoc]
    exact lenF_numb hn _
  have h1 : (frm tag body).take ((frm tag body).length - 1) ≠ [] := fun e => by
    have := congrArg List.length e
    rw [List.length_take, List.length_nil, hl] at this
    omega
  unfold readF
  rw [if_neg h1, e1, if_neg (by simp), if_pos (by rw [List.length_take, hl]; show min (fsize body.length - 1) (fsize body.length) < fsize body.length; omega)]

/-- What the law counts of blocks. -/
def wgt (bl : List Blk) : Nat := (bl.map fun x => x.t.xs.length + 10).sum

theorem wgt_append (a b : List Blk) : wgt (a ++ b) = wgt a + wgt b := by unfold wgt; rw [List.map_append, List.sum_append]

theorem wgt_take (bl : List Blk) (k : Nat) (hk : k < bl.length) : wgt (bl.take (k + 1)) = wgt (bl.take k) + (bl[k].t.xs.length + 10) := by
  rw [List.take_succ_eq_append_getElem hk, wgt_append]
  unfold wgt; simp

theorem wgt_row (bl : List Blk) (h : wgt bl ≤ 100000) : (rowB bl).length ≤ wgt bl := by
  induction bl with
  | nil => simp [rowB]
  | cons x bl ih =>
    have e1 : rowB (x :: bl) = frm x.tag x.t.xs ++ rowB bl := rfl
    have e2 : wgt (x :: bl) = x.t.xs.length + 10 + wgt bl := by unfold wgt; simp
    rw [e2] at h
    have := ih (by omega)
    have h5 := fsize_le (n := x.t.xs.length) (by omega)
    rw [e1, e2, List.length_append, frm_len]; omega

end Go.Proofs.YtfeifobljgmkkaaDoor
