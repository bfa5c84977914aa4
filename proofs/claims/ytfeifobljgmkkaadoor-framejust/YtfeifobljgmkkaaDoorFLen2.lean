/- The program's length. -/
import Derived.Test.YtfeifobljgmkkaaDoorFLen
namespace Go.Proofs.YtfeifobljgmkkaaDoor
open Go.RowKit Crcx

set_option maxRecDepth 100000 in
set_option maxHeartbeats 400000 in
theorem length_any (t : Txt) (w : World) (ho : t.Ok w) (hc : t.xs.length ≤ t.cap) (hb : t.xs.length ≤ 140737488351232) :
    Calls Tryd.prog 35 #[.slice t.ao t.xs.length t.cap] w fun e w' => e = .returned (.tuple #[.int .i64 ((lenF t.xs).1 : Int), .int .i64 ((lenF t.xs).2 : Int)]) ∧ Touch (fun _ => False) w w' := by
  obtain ⟨q, hq⟩ : ∃ q : Nat, q = min t.xs.length 5 := ⟨_, rfl⟩
  obtain ⟨u, u1, u2, u3, u4, u5⟩ := cut_h ho hc q (by omega)
  have eform : t.xs.take 5 = u.xs := by
    rw [u1, hq]
    by_cases h : t.xs.length ≤ 5
    · rw [Nat.min_eq_left h, List.take_length, List.take_of_length_le h]
    · rw [Nat.min_eq_right (by omega)]
  obtain ⟨x, n, er, hsc⟩ : ∃ x n er, scan u.xs = (x, n, er) := ⟨_, _, _, rfl⟩
  obtain ⟨y, hy⟩ : ∃ y, y = (scan (u.xs ++ [1])).1 := ⟨_, rfl⟩
  have hres : lenF t.xs = if er = 0 ∧ x ≤ 268435456 then (x, 0) else if er = 110 ∧ y ≤ 268435456 then (0, 130) else (0, 131) := by
    unfold lenF; rw [eform, hsc, ← hy]
  have hu5 : u.xs.length ≤ 5 := by rw [u2, hq]; omega
  have hmin : min (t.xs.length : Int) 5 = (q : Int) := by omega
  have SZ := hide (fun W => size_any 268435456 W (by omega))
  have hs5 : (numb 268435456).length = 5 := by
    rw [numb_hi (by omega), numb_hi (by omega), numb_hi (by omega), numb_hi (by omega), numb_lo (by omega)]; rfl
  rw [hs5] at SZ
  have NR := hide (newReader_any u.ao u.xs u.cap w u3.seg (by omega))
  have LE := hide (fun (W : World) (hW : Touch (fun _ => False) w W) => least_any u W (u3.touch hW) hu5)
  rw [← hy] at LE
  have h8u := u3.in8
  have HS := hide hsc
  obtain ⟨r1, r2, hr⟩ : ∃ r1 r2, lenF t.xs = (r1, r2) := ⟨_, _, rfl⟩
  have HR := hide (hr.symm.trans hres)
  rw [hr]
  clear hr
  obtain ⟨ao, cap, xs⟩ := t
  obtain ⟨uo, uc, us⟩ := u
  simp only at *
  generalize hxl : xs.length = xl at *
  have u2' := hide u2
  clear hsc hy hres eform u1 ho hs5 u3 hq u2 hxl
  go_enter Tryd.func35, Tryd.ntmps35
  go_wp2_with fail
  refine (SZ.out w).mono ?_
  rintro e w' ⟨rfl, rfl⟩
  go_wp2_with fail
  refine NR.out.mono ?_
  rintro e w4 ⟨rb, c4, rfl, hrb, R4, t4⟩
  have NU := hide (number_eq rb _ c4 us 0 x n er w4 R4 h8u (by omega) (by rw [List.drop_zero]; exact HS.out))
  clear R4 NR
  go_wp2_with fail
  refine NU.out.mono ?_
  rintro e w5 ⟨rfl, R5, t5⟩
  have T5 := t4.trans t5 (fun k hk e => by omega)
  clear R5 NU t5 t4
  by_cases h0 : er = 0
  · subst h0
    by_cases hx : x ≤ 268435456
    · have hx' : (x : Int) ≤ 268435456 := by omega
      have hw : IntKind.i64.wrap (x : Int) = (x : Int) := by rw [IntKind.wrap_i64]; omega
      go_wp2_with fail
      go_ret2
      have hh := HR.out
      rw [if_pos (by constructor <;> first | trivial | assumption)] at hh
      injection hh with e1 e2
      exact ⟨by rw [e1, e2]; rfl, T5⟩
    · have hx' : decide ((x : Int) ≤ 268435456) = false := decide_eq_false (by omega)
      go_wp2_with fail
      go_ret2
      have hh := HR.out
      rw [if_neg (fun h => hx h.2), if_neg (fun h => by omega)] at hh
      injection hh with e1 e2
      exact ⟨by rw [e1, e2]; rfl, T5⟩
  · have h0' : ((er : Int) == 0) = false := by rw [beq_eq_false_iff_ne]; omega
    by_cases h1 : er = 110
    · subst h1
      by_cases hy : y ≤ 268435456
      · have hy' : (y : Int) ≤ 268435456 := by omega
        go_wp2_with fail
        refine (LE.out _ T5).mono ?_
        rintro e w6 ⟨rfl, t6⟩
        have T6 := T5.trans t6 (fun _ _ h => h)
        go_wp2_with fail
        go_ret2
        have hh := HR.out
        rw [if_neg (fun h => h0 h.1), if_pos (by constructor <;> first | trivial | assumption)] at hh
        injection hh with e1 e2
        exact ⟨by rw [e1, e2]; rfl, T6⟩
      · have hy' : decide ((y : Int) ≤ 268435456) = false := decide_eq_false (by omega)
        go_wp2_with fail
        refine (LE.out _ T5).mono ?_
        rintro e w6 ⟨rfl, t6⟩
        have T6 := T5.trans t6 (fun _ _ h => h)
        go_wp2_with fail
        go_ret2
        have hh := HR.out
        rw [if_neg (fun h => h0 h.1), if_neg (fun h => hy h.2)] at hh
        injection hh with e1 e2
        exact ⟨by rw [e1, e2]; rfl, T6⟩
    · have h1' : ((er : Int) == 110) = false := by rw [beq_eq_false_iff_ne]; omega
      go_wp2_with fail
      go_ret2
      have hh := HR.out
      rw [if_neg (fun h => h0 h.1), if_neg (fun h => h1 h.1)] at hh
      injection hh with e1 e2
      exact ⟨by rw [e1, e2]; rfl, T5⟩

end Go.Proofs.YtfeifobljgmkkaaDoor
