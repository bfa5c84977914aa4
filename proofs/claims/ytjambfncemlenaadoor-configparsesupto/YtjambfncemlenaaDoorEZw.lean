/- A job out of a text: the program's Parse is the document's; the walk of ConfigParses. -/
import Derived.Test.YtjambfncemlenaaDoorEZm
import Derived.Test.YtjambfncemlenaaDoorPkd
import Derived.Test.YtjambfncemlenaaDoorEI
namespace Go.Proofs.YtjambfncemlenaaDoor
open Go.RowKit

theorem pp_prs {s : ByteArray} {L : List ByteArray} (hL : L.map (·.toList) = cutB s) : prsJ L s = ppJ s := by
  cases h1 : (prsJ L s).2 with
  | true =>
    obtain ⟨hw, ht⟩ := prs_is h1
    have hs : txtS (prsJ L s).1 10 = s := ba_ext (by rw [← toList_data, ht, toList_data])
    have e := pp_text hw
    rw [hs] at e
    rw [e]
    exact Prod.ext rfl h1
  | false =>
    cases h2 : (ppJ s).2 with
    | false =>
      rw [pp_none h2]
      exact Prod.ext (prs_none h1) h1
    | true =>
      obtain ⟨hw, hs⟩ := pp_is h2
      have e := prs_text (c := (ppJ s).1) (L := L) hw (fun j hj => by have := wrong_pos hw j (by omega); omega) (by rw [hs]; exact hL)
      rw [hs] at e
      rw [e] at h1
      cases h1

set_option maxRecDepth 100000 in
set_option maxHeartbeats 2000000 in
theorem parses_walk (s : ByteArray) (hs : s.size ≤ 1048576) (w : World) (ht : Tab w) (he : Errs w) (hw : Words w gW) : Calls Tryd.prog 5 #[.string s] w fun e w' => e = .returned (.bool true) ∧ Calm w w' := by
  have CN := fun x w => hide (num_any x w)
  have CW : Hid (∀ W, Calm w W → Calls Tryd.prog 12 #[] W fun e w' => e = .returned (.bool true) ∧ Calm W w') := hide fun W hW => works_any W (ht.calm hW) (hw.calm hW)
  have CR := hide (parse_any s (by omega) w ht he hw)
  have CD : Hid (∀ W, Calm w W → Calls Tryd.prog 18 #[.string s] W fun e w' => e = .returned (.tuple #[cfv (ppJ s).1, .bool (ppJ s).2]) ∧ Calm W w') := hide fun W hW => by
    refine (rparse_any s (by omega) W (ht.calm hW)).mono ?_
    rintro e w' ⟨L, hL, rfl, hC⟩
    rw [pp_prs hL]
    exact ⟨rfl, hC⟩
  clear hs ht he hw
  generalize (ppJ s).1 = q at *
  generalize (ppJ s).2 = ok at *
  obtain ⟨r, hr⟩ : ∃ r : Int, r = if ok then 0 else 211 := ⟨_, rfl⟩
  rw [← hr] at CR
  have HR := hide hr
  clear hr
  go_enter Tryd.func5, Tryd.ntmps5
  go_wp2_with fail
  refine CR.out.mono ?_
  rintro e w2 ⟨rfl, T2⟩
  have A2 := hide (al_new w2 (.cells (cfc q) 24))
  have C2 := hide (T2.alloc (.cells (cfc q) 24))
  clear CR T2
  go_wp2_with fail
  generalize w2.alloc (.cells (cfc q) 24) = w3 at *
  generalize w2.heap.size = D at *
  refine (CD.out _ C2.out).mono ?_
  rintro e w4 ⟨rfl, T4⟩
  have A4 := T4.at A2.out
  obtain ⟨⟨g0, g1, g2, g3, g4, g5, g6⟩, g7, g8, g9⟩ := cf_cells A4
  have hDl := lt_of_heap A4
  have hDn : ¬ w4.heap.size = D := by omega
  have C5 := hide ((C2.out.tr T4).alloc (.cells (cfc q) 24))
  clear CD T4 A4 A2 C2
  cases ok with
  | true =>
    obtain rfl : r = 0 := HR.out
    clear HR
    go_wp2_with fail
    refine (CN _ _).out.mono ?_
    rintro e w6 ⟨rfl, hw6⟩
    subst hw6
    go_wp2_with fail
    refine (CW.out _ C5.out).mono ?_
    rintro e w7 ⟨rfl, T7⟩
    have HT := hide (C5.out.tr T7)
    clear T7 C5
    go_wp2_with fail
    go_ret
    exact ⟨rfl, HT.out⟩
  | false =>
    obtain rfl : r = 211 := HR.out
    clear HR
    go_wp2_with fail
    refine (CN _ _).out.mono ?_
    rintro e w6 ⟨rfl, hw6⟩
    subst hw6
    go_wp2_with fail
    refine (CN _ _).out.mono ?_
    rintro e w6 ⟨rfl, hw6⟩
    subst hw6
    go_wp2_with fail
    refine (CW.out _ C5.out).mono ?_
    rintro e w7 ⟨rfl, T7⟩
    have HT := hide (C5.out.tr T7)
    clear T7 C5
    go_wp2_with fail
    go_ret
    exact ⟨rfl, HT.out⟩

end Go.Proofs.YtjambfncemlenaaDoor
