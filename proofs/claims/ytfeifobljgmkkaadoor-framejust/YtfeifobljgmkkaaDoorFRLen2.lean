/- The document's length. -/
import Derived.Test.YtfeifobljgmkkaaDoorFRLen
namespace Go.Proofs.YtfeifobljgmkkaaDoor
open Go.RowKit Crcx

theorem High.next {xs : List Int} {k : Nat} (h : High (xs.take k)) (hk : k < xs.length) (hc : 128 ≤ xs.getD k 0 ∧ xs.getD k 0 ≤ 255) : High (xs.take (k + 1)) := by
  rw [List.take_succ_eq_append_getElem hk]
  intro c hm
  rcases List.mem_append.1 hm with hm | hm
  · exact h c hm
  · obtain rfl := List.mem_singleton.1 hm
    rw [List.getD_eq_getElem?_getD, List.getElem?_eq_getElem hk] at hc
    exact hc

/-- What the document's length answers. -/
def LenEnd (w : World) (xs : List Int) (r : Ending) (w' : World) : Prop :=
  r = .returned (.tuple #[.int .i64 ((lenF xs).1 : Int), .int .i64 ((if (lenF xs).2 = 0 then (numb (lenF xs).1).length else 0 : Nat) : Int), .int .i64 ((lenF xs).2 : Int)]) ∧ Touch (fun _ => False) w w'

theorem lenEnd_of {w w' : World} {xs : List Int} {n e s : Nat} (h : lenF xs = (n, e)) (hs : s = if e = 0 then (numb n).length else 0) (ht : Touch (fun _ => False) w w') : LenEnd w xs (.returned (.tuple #[.int .i64 (n : Int), .int .i64 (s : Int), .int .i64 (e : Int)])) w' := by
  unfold LenEnd; rw [h]; simp only; rw [← hs]; exact ⟨rfl, ht⟩

set_option maxRecDepth 100000 in
set_option maxHeartbeats 1000000 in
theorem rlength_any (ao : Option Addr) (xs : List Int) (cap : Nat) (w : World) (hs : Seg w .u8 ao xs) (h8 : In8 xs) (hb : xs.length ≤ 140737488351232) :
    Calls Tryd.prog 39 #[.slice ao xs.length cap] w (LenEnd w xs) := by
  have hcell : ∀ k, k < xs.length → ∃ b off, ao = some ⟨b, off, none⟩ ∧ w.cell? ⟨b, off + k, none⟩ = some (.int .u8 (xs.getD k 0)) := fun k hk => by
    obtain ⟨b, off, rfl⟩ := hs.addr (by omega)
    exact ⟨b, off, rfl, hs.at k hk⟩
  go_enter Tryd.func39, Tryd.ntmps39
  go_wp2_with fail
  go_loop [5] (fun i => ∃ k : Nat, i = .int .i64 k ∧ k ≤ xs.length ∧ High (xs.take k)) (fun i => xs.length - (intOf i).toNat)
  case atStart => exact ⟨0, rfl, Nat.zero_le _, fun c hc => by simp at hc⟩
  case round =>
    obtain ⟨k, rfl, hk, hH⟩ := hrel
    by_cases hlt : k < xs.length
    · have hby := h8.at k
      by_cases hge : 128 ≤ xs.getD k 0
      · have HN := hide (hH.next hlt ⟨hge, hby.2⟩)
        obtain ⟨b, off, rfl, hc⟩ := hcell k hlt
        have hlt' : (k : Int) < (xs.length : Int) := by omega
        clear hcell hH hs h8
        generalize xs.getD k 0 = c at *
        go_wp2_with fail
        go_round
        case rel => exact ⟨k + 1, by go_num, by omega, HN.out⟩
        case measure => simp [intOf]; omega
      · have hlow : xs.getD k 0 < 128 := by omega
        have hge' : decide ((128 : Int) ≤ xs.getD k 0) = false := decide_eq_false hge
        have exs : xs = xs.take k ++ xs.getD k 0 :: xs.drop (k + 1) := by
          rw [List.getD_eq_getElem?_getD, List.getElem?_eq_getElem hlt]
          show xs = xs.take k ++ xs[k] :: xs.drop (k + 1)
          rw [← List.drop_eq_getElem_cons hlt, List.take_append_drop]
        have hlf := lenF_low (xs.drop (k + 1)) hH hby.1 hlow
        rw [← exs] at hlf
        have hlk : (xs.take k).length = k := by simp; omega
        have etk : xs.take k ++ [xs.getD k 0] = xs.take (k + 1) := by
          rw [List.take_succ_eq_append_getElem hlt, List.getD_eq_getElem?_getD, List.getElem?_eq_getElem hlt]; rfl
        rw [etk, hlk] at hlf
        have HLF := hide hlf
        obtain ⟨b, off, rfl, hc⟩ := hcell k hlt
        have hlt' : (k : Int) < (xs.length : Int) := by omega
        have hkne : ¬ (k : Int) = (xs.length : Int) := by omega
        generalize xs.getD k 0 = ck at *
        clear hH hlf exs etk hlk
        go_wp2_with fail
        go_loop [6, 7, 8] (fun n u i => ∃ (j : Nat) (p : Int), i = .int .i64 j ∧ j ≤ k + 1 ∧ j ≤ 9 ∧ n = .int .i64 ((dsum (xs.take j) : Nat) : Int) ∧ u = .int .i64 p ∧ (j ≤ 8 → p = ((128 ^ j : Nat) : Int))) (fun _ _ i => 9 - (intOf i).toNat)
        case atStart => exact ⟨0, 1, rfl, Nat.zero_le _, by omega, rfl, rfl, fun _ => rfl⟩
        case round =>
          obtain ⟨j, p, rfl, hj, hj9, rfl, rfl, hp⟩ := hrel
          by_cases hjk : j ≤ k
          · have hjk' : (j : Int) ≤ (k : Int) := by omega
            by_cases h9 : j < 9
            · have h9' : (j : Int) < 9 := by omega
              have hp8 := hp (by omega)
              subst hp8
              obtain ⟨b', off', e', hc'⟩ := hcell j (by omega)
              injection e' with e'
              injection e' with e1' e2' _
              subst e1' e2'
              have hr := h8.at j
              have HD := hide (dsum_take xs j (by omega))
              obtain ⟨e1, e2, e3⟩ := digit_step (dsum (xs.take j)) ((xs.getD j 0).toNat % 128) j (by omega) (by omega) (dsum_take_lt xs j)
              have ed : (xs.getD j 0) % 128 = (((xs.getD j 0).toNat % 128 : Nat) : Int) := by omega
              have hjx : (j : Int) < (xs.length : Int) := by omega
              have hdw : IntKind.i64.wrap (((xs.getD j 0).toNat % 128 : Nat) : Int) = (((xs.getD j 0).toNat % 128 : Nat) : Int) := by rw [IntKind.wrap_i64]; omega
              have hd128 : (xs.getD j 0).toNat % 128 < 128 := Nat.mod_lt _ (by omega)
              generalize xs.getD j 0 = c at *
              generalize c.toNat % 128 = d at *
              generalize dsum (xs.take j) = n at *
              have HN := hide (show ((n + d * 128 ^ j : Nat) : Int) = ((dsum (xs.take (j + 1)) : Nat) : Int) by rw [HD.out])
              by_cases h7 : j ≤ 7
              · have e3' := e3 h7
                generalize n + d * 128 ^ j = m at *
                generalize d * 128 ^ j = q at *
                generalize 128 ^ j = P at *
                generalize hpp : 128 ^ (j + 1) = P' at *
                have HPP := hide hpp
                clear hpp e3 hp HD hcell h8 hs
                go_wp2_with fail
                go_round
                case rel => exact ⟨j + 1, _, by go_num, by omega, by omega, by rw [e2, HN.out], rfl, fun _ => by rw [HPP.out]; exact e3'⟩
                case measure => simp [intOf]; omega
              · generalize n + d * 128 ^ j = m at *
                generalize d * 128 ^ j = q at *
                generalize 128 ^ j = P at *
                clear e3 hp HD hcell h8 hs
                go_wp2_with fail
                go_round
                case rel => exact ⟨j + 1, _, by go_num, by omega, by omega, by rw [e2, HN.out], rfl, fun h => absurd h (by omega)⟩
                case measure => simp [intOf]; omega
            · have h9' : decide ((j : Int) < 9) = false := decide_eq_false (by omega)
              have hk9 : (9 : Int) ≤ (k : Int) := by omega
              have hno : lenF xs = (0, 131) := by
                rw [HLF.out, if_neg]
                intro hh
                have := numb5 hh.1
                omega
              have HE := hide (fun W => lenEnd_of (w := w) (w' := W) hno (s := 0) rfl)
              generalize dsum (xs.take j) = n at *
              clear HLF hno hp hcell h8 hs
              go_wp2_with fail
              go_ret3
              exact HE.out _ (Touch.refl _ _)
          · have ej : j = k + 1 := by omega
            subst ej
            have hjk' : decide (((k + 1 : Nat) : Int) ≤ (k : Int)) = false := decide_eq_false (by omega)
            have hk9 : decide ((9 : Int) ≤ (k : Int)) = false := decide_eq_false (by omega)
            have hlt9 := dsum_take_lt xs (k + 1)
            by_cases hmax : dsum (xs.take (k + 1)) ≤ 268435456
            · have hmax' : decide ((268435456 : Int) < ((dsum (xs.take (k + 1)) : Nat) : Int)) = false := decide_eq_false (by omega)
              have NU := hide (fun W => rnumber_any (dsum (xs.take (k + 1))) W (by omega))
              have hkk : (k : Int) ≤ 9 := by omega
              by_cases hlen : (numb (dsum (xs.take (k + 1)))).length = k + 1
              · have hyes : lenF xs = (dsum (xs.take (k + 1)), 0) := by rw [HLF.out, if_pos ⟨hmax, hlen⟩]
                have HE := hide (fun W => lenEnd_of (w := w) (w' := W) hyes (s := k + 1) (by rw [if_pos rfl, hlen]))
                have hl' : (((numb (dsum (xs.take (k + 1)))).length : Nat) : Int) = (k : Int) + 1 := by omega
                generalize numb (dsum (xs.take (k + 1))) = nb at *
                generalize dsum (xs.take (k + 1)) = n at *
                have HNB := hide hlen
                clear HLF hyes hp hcell h8 hs hlt9 hlen
                go_wp2_with fail
                refine (NU.out _).mono ?_
                rintro e w1 ⟨no, nn, nc, rfl, N1⟩
                have hnn : nn = k + 1 := by rw [N1.row.len, HNB.out]
                subst hnn
                have T1 := N1.touch
                clear N1 NU hl'
                go_wp2_with fail
                go_ret3
                exact HE.out _ T1
              · have hno : lenF xs = (0, 131) := by rw [HLF.out, if_neg (fun h => hlen h.2)]
                have HE := hide (fun W => lenEnd_of (w := w) (w' := W) hno (s := 0) rfl)
                have hl' : ((((numb (dsum (xs.take (k + 1)))).length : Nat) : Int) != (k : Int) + 1) = true := by
                  rw [bne_iff_ne]; omega
                generalize numb (dsum (xs.take (k + 1))) = nb at *
                generalize dsum (xs.take (k + 1)) = n at *
                have HNB := hide hl'
                clear HLF hno hp hcell h8 hs hlt9 hlen hl'
                go_wp2_with fail
                refine (NU.out _).mono ?_
                rintro e w1 ⟨no, nn, nc, rfl, N1⟩
                have hnn : nn = nb.length := N1.row.len
                subst hnn
                have T1 := N1.touch
                have hl' := HNB.out
                clear N1 NU
                go_wp2_with fail
                go_ret3
                exact HE.out _ T1
            · have hmax' : decide ((268435456 : Int) < ((dsum (xs.take (k + 1)) : Nat) : Int)) = true := decide_eq_true (by omega)
              have hno : lenF xs = (0, 131) := by rw [HLF.out, if_neg (fun h => hmax h.1)]
              have HE := hide (fun W => lenEnd_of (w := w) (w' := W) hno (s := 0) rfl)
              generalize dsum (xs.take (k + 1)) = n at *
              clear HLF hno hp hcell h8 hs hlt9
              go_wp2_with fail
              go_ret3
              exact HE.out _ (Touch.refl _ _)
    · have e : k = xs.length := by omega
      subst e
      rw [List.take_length] at hH
      have hlf := lenF_high hH
      have BG := hide (rbegins_any ao xs cap w hs hH hb)
      by_cases hmax : dsum xs + 128 ^ xs.length ≤ 268435456
      · rw [if_pos hmax] at hlf
        rw [decide_eq_true hmax] at BG
        have HE := hide (fun W => lenEnd_of (w := w) (w' := W) hlf (s := 0) rfl)
        generalize xs.length = xl at *
        clear hlf hmax hcell h8 hs hH
        go_wp2_with fail
        refine BG.out.mono ?_
        rintro e w' ⟨rfl, rfl⟩
        go_wp2_with fail
        go_ret3
        exact HE.out _ (Touch.refl _ _)
      · rw [if_neg hmax] at hlf
        rw [decide_eq_false hmax] at BG
        have HE := hide (fun W => lenEnd_of (w := w) (w' := W) hlf (s := 0) rfl)
        generalize xs.length = xl at *
        clear hlf hmax hcell h8 hs hH
        go_wp2_with fail
        refine BG.out.mono ?_
        rintro e w' ⟨rfl, rfl⟩
        go_wp2_with fail
        go_ret3
        exact HE.out _ (Touch.refl _ _)

end Go.Proofs.YtfeifobljgmkkaaDoor
