/- The program's Each: what it hands over. -/
import Derived.Test.YtfeifobljgmkkaaDoorFRange
import Derived.Test.YtfeifobljgmkkaaDoorFHead
import Derived.Test.YtfeifobljgmkkaaDoorFKnown
namespace Go.Proofs.YtfeifobljgmkkaaDoor
open Go.RowKit Crcx
attribute [local go_sem] Oper.semAt_some

/-- Where the frame number k begins. -/
def pl (lst : List (Int × List Int)) (k : Nat) : Nat := (rowF (lst.take k)).length

theorem rowF_take (l : List (Int × List Int)) (k : Nat) (hk : k < l.length) : rowF (l.take (k + 1)) = rowF (l.take k) ++ frm l[k].1 l[k].2 := by
  rw [List.take_succ_eq_append_getElem hk, rowF_append]; unfold rowF; simp

theorem pl_succ (l : List (Int × List Int)) (k : Nat) (hk : k < l.length) : pl l (k + 1) = pl l k + fsize l[k].2.length := by
  unfold pl; rw [rowF_take l k hk, List.length_append, frm_len]

theorem pl_le (l : List (Int × List Int)) (k : Nat) : pl l k ≤ (rowF l).length := by
  unfold pl
  have h : rowF l = rowF (l.take k) ++ rowF (l.drop k) := by rw [← rowF_append, List.take_append_drop]
  rw [h, List.length_append]; omega

theorem Heads.place {b : List Int} {l : List (Int × List Int)} {p e : Nat} (h : Heads b l p e) : pl l l.length = p := by
  unfold pl; rw [List.take_length, h.row, List.length_take, Nat.min_eq_left h.le]

theorem Heads.before {b : List Int} {l : List (Int × List Int)} {p e : Nat} (h : Heads b l p e) (k : Nat) : pl l k ≤ b.length := by
  have := pl_le l k
  rw [h.row, List.length_take] at this; omega

theorem Heads.next {b : List Int} {l : List (Int × List Int)} {p e : Nat} (h : Heads b l p e) (k : Nat) (hk : k < l.length) : readF (b.drop (pl l k)) = ⟨0, l[k].1, l[k].2, fsize l[k].2.length⟩ := by
  have ok := h.ok _ (List.getElem_mem hk)
  have e1 : b = rowF (l.take k) ++ (frm l[k].1 l[k].2 ++ (rowF (l.drop (k + 1)) ++ b.drop p)) := by
    have e2 : rowF l = rowF (l.take (k + 1)) ++ rowF (l.drop (k + 1)) := by rw [← rowF_append, List.take_append_drop]
    have e3 : b = rowF l ++ b.drop p := by rw [h.row, List.take_append_drop]
    rw [e2, rowF_take l k hk] at e3
    simpa [List.append_assoc] using e3
  have e4 : b.drop (pl l k) = frm l[k].1 l[k].2 ++ (rowF (l.drop (k + 1)) ++ b.drop p) := by
    have : ∀ (x y : List Int), (x ++ y).drop x.length = y := fun x y => by simp
    unfold pl
    conv => lhs; rw [e1]
    rw [this]
  rw [e4]
  exact readF_frm ok.tag ok.in8 ok.len _

/-- What is handed over: the place, the tag, the body. -/
structure Hand where
  place : Nat
  tag : Int
  bo : Option Addr
  bn : Nat
  bc : Nat

def Hand.encs (x : Hand) : Array Value := #[.int .i64 (x.place : Int), .agg #[.int .u8 x.tag, .slice x.bo x.bn x.bc]]

def Handed (lst : List (Int × List Int)) (k : Nat) (x : Hand) (W0 W : World) : Prop :=
  ∃ hk : k < lst.length, x.place = pl lst k ∧ x.tag = lst[k].1 ∧ New W0 W (.slice x.bo x.bn x.bc) lst[k].2

def Takes (Bs : Nat) (t : Txt) (_ : Nat) (W : World) : Prop := W.cell? ⟨Bs, 0, none⟩ = some t.val ∧ t.Ok W ∧ Tab W

set_option maxRecDepth 100000 in
set_option maxHeartbeats 2000000 in
theorem each1_any (Bs : Nat) (t : Txt) (hc : t.xs.length ≤ t.cap) (hb : t.xs.length ≤ 2147483648) (lst : List (Int × List Int)) (p e : Nat) (hH : Heads t.xs lst p e) :
    Seq Tryd.prog 52 #[.pointer (some ⟨Bs, 0, none⟩)] Hand.encs lst.length (Handed lst) (Takes Bs t) := by
  intro n l J Jx W hT hJt hY h0
  obtain ⟨xl, hxl⟩ : ∃ xl, xl = t.xs.length := ⟨_, rfl⟩
  have HXL := hide hxl
  have HT := hide hT
  have HJT := hide hJt
  have HY := hide hY
  have HH := hide hH
  have HC := hide hc
  rw [← hxl] at hb
  have hxli : (xl : Int) ≤ 2147483648 := by omega
  clear hxl hT hJt hY hH hc
  refine callsIn_of_wp Tryd.func52 rfl trivial ?_ rfl
  simp only [Tryd.ntmps52, List.size_toArray, List.length_cons, List.length_nil, Nat.reduceAdd, Nat.reduceSub, Array.replicate_succ, Array.replicate_zero, List.push_toArray, List.append_toArray, List.nil_append, List.cons_append]
  gi_wp2
  gi_loopw [3] (fun i wr => ∃ (k q : Nat), k ≤ lst.length ∧ q = pl lst k ∧ i = .int .i64 (q : Int) ∧ J k wr) (fun i _ => xl - (intOf i).toNat)
  case atStart => exact ⟨0, 0, Nat.zero_le _, rfl, rfl, h0⟩
  case round =>
    obtain ⟨k, q, hk, hq, rfl, hJ⟩ := hrel
    obtain ⟨cb, ok, tab⟩ := HT.out k wr hJ
    have hqx : q ≤ xl := by rw [hq, HXL.out]; exact HH.out.before k
    obtain ⟨u, u1, u2, u3, u4, u5⟩ := cut_l ok HC.out q (by rw [← HXL.out]; exact hqx)
    rw [← HXL.out] at u2 u5
    have RD0 := read_any u wr tab u3 u4 (by rw [u2]; omega)
    rw [u1, hq] at RD0
    have HTB := hide tab
    simp only [Txt.val, ← HXL.out] at cb
    by_cases hkl : k < lst.length
    · have hps := pl_succ lst k hkl
      have hlx := HH.out.before (k + 1)
      rw [hps, ← hq, ← HXL.out] at hlx
      have h6 := fsize_lt lst[k].2.length
      have hqi : (q : Int) < (xl : Int) := by omega
      rw [HH.out.next k hkl] at RD0
      have hul : (t.xs.drop (pl lst k)).length = xl - q := by rw [List.length_drop, ← HXL.out, ← hq]
      rw [hul] at RD0
      rw [u2] at u5
      have RD := hide RD0
      have HYK := hide (fun (W1 : World) (bo : Option Addr) (bn bc : Nat) (h : New wr W1 (.slice bo bn bc) lst[k].2) => HY.out k ⟨q, lst[k].1, bo, bn, bc⟩ wr W1 hJ (HJT.out k _ _ hJ h.touch) hkl ⟨hkl, hq, rfl, h⟩)
      simp only [Hand.encs] at HYK
      have HPS := hide hps
      have HQ := hide hq
      have hfi : (fsize lst[k].2.length : Int) ≤ 2147483648 := by omega
      have hfq : (q : Int) + (fsize lst[k].2.length : Int) ≤ 2147483648 := by omega
      have hfs : xl - (q + fsize lst[k].2.length) < xl - q := by omega
      generalize fsize lst[k].2.length = fs at *
      generalize lst[k].1 = tg at *
      generalize lst[k].2 = bd at *
      generalize u.ao = uo at *
      generalize u.cap = uc at *
      generalize xl - q = ul at *
      clear RD0 hul u1 u2 u3 u4 ok tab hps hlx hq
      gi_wp2
      refine ⟨trivial, fun h => (nomatch h), (callsIn_wide.2 RD.out).mono ?_⟩
      rintro e w1 ⟨bo, bn, bc, rfl, N1⟩
      simp only at N1
      have N2 := N1.keep ((Touch.refl (fun _ => False) w1).alloc (.cells #[.int .u8 tg, .slice bo bn bc] 36))
      obtain ⟨fn, tmps, assign, body, hy, hR⟩ := HYK.out _ bo bn bc N2
      clear N1 N2 RD u5 HYK
      gi_wp2
      refine ⟨fun h => (nomatch h), hR.mono ?_⟩
      rintro e W3 (⟨rfl, hJ3⟩ | ⟨rfl, hJx3⟩)
      · gi_wp2
        go_roundw
        case rel => exact ⟨k + 1, q + fs, hkl, by rw [HPS.out, ← HQ.out], by go_num, hJ3⟩
        case measure => simp [intOf]; omega
      · gi_wp2
        refine bodyPost_ret (results_none rfl _ _ _) rfl ?_
        exact ⟨⟨_, rfl⟩, .inr ⟨k + 1, hkl, hJx3⟩⟩
    · have hkk : k = lst.length := by omega
      have hqp : q = p := by rw [hq, hkk]; exact HH.out.place
      have HJ : Hid (J lst.length wr) := hide (by rw [← hkk]; exact hJ)
      rcases HH.out.stop with ⟨_, hp⟩ | ⟨he, hee, hlt⟩
      · have hqe : q = xl := by rw [hqp, hp, HXL.out]
        subst hqe
        clear RD0 u1 u2 u3 u4 u5 ok tab hq hqp hp hkk
        gi_wp2
        go_end0
        exact ⟨⟨_, rfl⟩, .inl HJ.out⟩
      · have hqi : (q : Int) < (xl : Int) := by rw [hqp]; have := HXL.out; omega
        have hul : (t.xs.drop (pl lst k)).length = xl - q := by rw [List.length_drop, ← HXL.out, ← hq]
        rw [hul] at RD0
        rw [← hq, hqp] at RD0
        obtain ⟨G, hG⟩ : ∃ G, G = readF (t.xs.drop p) := ⟨_, rfl⟩
        rw [← hG] at RD0 hee
        have hge : ¬ (G.err : Int) = 0 := by omega
        rw [← hqp] at RD0
        rw [u2] at u5
        have RD := hide RD0
        obtain ⟨ge, gt, gb, gs⟩ := G
        simp only at *
        have HJT2 := hide (fun W1 (h : Touch (fun _ => False) wr W1) => HJT.out _ _ _ HJ.out h)
        generalize u.ao = uo at *
        generalize u.cap = uc at *
        generalize xl - q = ul at *
        clear RD0 hul u1 u2 u3 u4 ok tab hq hqp hkk hG hee he hlt
        gi_wp2
        refine ⟨trivial, fun h => (nomatch h), (callsIn_wide.2 RD.out).mono ?_⟩
        rintro e w1 ⟨bo, bn, bc, rfl, N1⟩
        have HJ2 := hide (HJT2.out _ (N1.touch.trans ((Touch.refl (fun _ => False) w1).alloc (.cells #[.int .u8 gt, .slice bo bn bc] 36)) (fun _ _ h => h)))
        clear N1 RD u5
        gi_wp2
        refine ⟨fun _ h => (by cases h), ?_⟩
        gi_wp2
        refine bodyPost_ret (results_none rfl _ _ _) rfl ?_
        exact ⟨⟨_, rfl⟩, .inl HJ2.out⟩

end Go.Proofs.YtfeifobljgmkkaaDoor
