/- A job out of bytes: the program reads what the document reads; the walk of ConfigReads. -/
import Derived.Test.YtjambfncemlenaaDoorEL
import Derived.Test.YtjambfncemlenaaDoorCL
import Derived.Test.YtjambfncemlenaaDoorEI
import Derived.Test.YtjambfncemlenaaDoorCY
namespace Go.Proofs.YtjambfncemlenaaDoor
open Go.RowKit

theorem pg_rd {b : List Int} (h8 : In8 b) : pgJ b = rdJ b := by
  cases h1 : (rdJ b).2.2 with
  | true =>
    obtain ⟨hw, p, hp, hpl, ht⟩ := rd_is h1
    have hb : b = cfB (rdJ b).1 10 ++ b.drop p := by rw [← ht, List.take_append_drop]
    have e1 := pg_bytes (b.drop p) hw
    have hlen : (cfB (rdJ b).1 10).length = p := by rw [← ht, List.length_take]; omega
    rw [← hb, hlen, ← hp, ← h1] at e1
    exact e1
  | false =>
    cases h2 : (pgJ b).2.2 with
    | false =>
      obtain ⟨n1, n2⟩ := rd_none h1
      rw [pg_none h2]
      refine Prod.ext n1.symm (Prod.ext n2.symm h1.symm)
    | true =>
      obtain ⟨hw, m, hb⟩ := pg_is h8 h2
      have e1 := rd_bytes m hw (fun j hj => by have := wrong_pos hw j hj; omega)
      rw [← hb] at e1
      rw [e1] at h1
      cases h1

set_option maxRecDepth 100000 in
set_option maxHeartbeats 2000000 in
theorem reads_walk (b : List Int) (ao : Option Addr) (cap : Nat) (w : World) (hs : encB.Sl w ao cap b) (h8 : Cg.In8 b) (hn : b.length ≤ 140737488351232) (ht : Tab w) (hw : Words w gW) : Calls Tryd.prog 4 #[.slice ao b.length cap] w fun e w' => e = .returned (.bool true) ∧ Calm w w' := by
  have CN := fun x w => hide (num_any x w)
  have CW : Hid (∀ W, Calm w W → Calls Tryd.prog 12 #[] W fun e w' => e = .returned (.bool true) ∧ Calm W w') := hide fun W hW => works_any W (ht.calm hW) (hw.calm hW)
  have CL := hide (lendBytes_any b ao cap w hs (by omega))
  have CR : Hid (∀ g c W, encB.Sl W (some ⟨g, 0, none⟩) c b → Calls Tryd.prog 14 #[.slice (some ⟨g, 0, none⟩) b.length c] W fun e w' => e = .returned (.tuple #[cfv (rdJ b).1, .int .i64 (rdJ b).2.1, .int .i64 (if (rdJ b).2.2 then 0 else 210)]) ∧ Calm W w') := hide fun g c W h => by
    have := read_any b _ c W h h8
    rw [pg_rd h8] at this
    exact this
  have CD : Hid (∀ W, Calm w W → Calls Tryd.prog 15 #[.slice ao b.length cap] W fun e w' => e = .returned (.tuple #[cfv (rdJ b).1, .int .i64 (rdJ b).2.1, .bool (rdJ b).2.2]) ∧ Calm W w') := hide fun W hW => rRead_any b ao cap W (Rc.Sl.calm hs hW) h8 (by omega)
  have CP : Hid (∀ g cc base W, Calm w W → LentB W base g cc b → Calls Tryd.prog 16 #[.slice (some ⟨g, 0, none⟩) b.length cc, .slice ao b.length cap] W fun e w' => e = .returned (.bool true) ∧ Calm W w') := hide fun g cc base W hW h => keptBytes_any b base g cc ao cap W h (Rc.Mem.calm hs.mem hW) (by omega)
  clear hs h8 hn ht hw
  generalize (rdJ b).1 = q at *
  generalize (rdJ b).2.1 = p at *
  generalize (rdJ b).2.2 = ok at *
  obtain ⟨r, hr⟩ : ∃ r : Int, r = if ok then 0 else 210 := ⟨_, rfl⟩
  rw [← hr] at CR
  have HR := hide hr
  clear hr
  have SLof : Hid (∀ W base g c, LentB W base g c b → encB.Sl W (some ⟨g, 0, none⟩) c b) := hide fun W base g c h => ⟨(LentB.mem h).1, fun h => (nomatch h), by have := (LentB.mem h).2.1; omega⟩
  generalize b.length = bn at *
  go_enter Tryd.func4, Tryd.ntmps4
  go_wp2_with fail
  refine CL.out.mono ?_
  rintro e w1 ⟨g, cc, rfl, L1, T1⟩
  have S1 := SLof.out _ _ _ _ L1
  have HL1 := hide L1
  have HT1 := hide T1
  clear CL L1 T1
  go_wp2_with fail
  refine (CR.out g cc _ S1).mono ?_
  rintro e w2 ⟨rfl, T2⟩
  have A2 := hide (al_new w2 (.cells (cfc q) 24))
  have C2 := hide (T2.alloc (.cells (cfc q) 24))
  clear CR S1 T2
  go_wp2_with fail
  generalize w2.alloc (.cells (cfc q) 24) = w3 at *
  generalize w2.heap.size = D at *
  refine (CD.out _ (HT1.out.tr C2.out)).mono ?_
  rintro e w4 ⟨rfl, T4⟩
  have A4 := T4.at A2.out
  obtain ⟨⟨g0, g1, g2, g3, g4, g5, g6⟩, g7, g8, g9⟩ := cf_cells A4
  have hDl := lt_of_heap A4
  have hDn : ¬ w4.heap.size = D := by omega
  have C5 := hide ((C2.out.tr T4).alloc (.cells (cfc q) 24))
  clear CD T4 A4 A2 C2
  cases ok with
  | true =>
    obtain rfl : r = 0 := HR.out
    clear HR
    go_wp2_with fail
    refine (CN _ _).out.mono ?_
    rintro e w6 ⟨rfl, hw6⟩
    subst hw6
    go_wp2_with fail
    clear g0 g1 g2 g3 g4 g5 g6 g7 g8 g9
    refine (CP.out g cc _ _ (HT1.out.tr C5.out) (LentB.calm HL1.out C5.out)).mono ?_
    rintro e w6 ⟨rfl, T6⟩
    have C6 := hide (C5.out.tr T6)
    clear T6 C5
    go_wp2_with fail
    refine (CW.out _ (HT1.out.tr C6.out)).mono ?_
    rintro e w7 ⟨rfl, T7⟩
    have HT := hide ((HT1.out.tr C6.out).tr T7)
    clear T7 C6
    go_wp2_with fail
    go_ret
    exact ⟨rfl, HT.out⟩
  | false =>
    obtain rfl : r = 210 := HR.out
    clear HR
    go_wp2_with fail
    refine (CN _ _).out.mono ?_
    rintro e w6 ⟨rfl, hw6⟩
    subst hw6
    go_wp2_with fail
    refine (CN _ _).out.mono ?_
    rintro e w6 ⟨rfl, hw6⟩
    subst hw6
    go_wp2_with fail
    clear g0 g1 g2 g3 g4 g5 g6 g7 g8 g9
    refine (CP.out g cc _ _ (HT1.out.tr C5.out) (LentB.calm HL1.out C5.out)).mono ?_
    rintro e w6 ⟨rfl, T6⟩
    have C6 := hide (C5.out.tr T6)
    clear T6 C5
    go_wp2_with fail
    refine (CW.out _ (HT1.out.tr C6.out)).mono ?_
    rintro e w7 ⟨rfl, T7⟩
    have HT := hide ((HT1.out.tr C6.out).tr T7)
    clear T7 C6
    go_wp2_with fail
    go_ret
    exact ⟨rfl, HT.out⟩

end Go.Proofs.YtjambfncemlenaaDoor
