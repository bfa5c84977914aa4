/- The walks of GroupsTell and GroupsNames. -/
import Derived.Test.YtmhobdcnohhaaaaGKnown
namespace Go.Proofs.Ytmhobdcnohhaaaa
open Go.RowKit

set_option maxRecDepth 100000 in
set_option maxHeartbeats 2000000 in
theorem tell_walk (s : ByteArray) (hs : Shrt s) (n p g : Int) (w : World) : Calls Try.prog 3 #[.string s, .agg #[.int .i64 n, .int .i64 p, .int .i64 g]] w fun e w' => e = .returned (.bool true) ∧ Touch (fun _ => False) w w' := by
  have K1 := hide (group_any s hs g)
  have K2 := hide (rgroup_any s hs g)
  have K3 := hide (stretch0_any n p g)
  have K4 := hide (rstretch_any n p g)
  have K5 := hide (worker0_any n p g)
  have K6 := hide (rworker_any n p g)
  have K7 := hide (of_any s hs p g)
  have K8 := hide (rof_any s hs p g)
  have K9 := hide (hash_any s hs)
  have KA := hide (rhash_any s hs)
  generalize gA s g = x1 at *
  generalize gE s g = x2 at *
  generalize sA n p g = x3 at *
  generalize sB n p g = x4 at *
  generalize sE n p g = x5 at *
  generalize kA n p g = x6 at *
  generalize kE n p g = x7 at *
  generalize oA s p g = x8 at *
  generalize oE s p g = x9 at *
  generalize hsh s = xa at *
  go_enter Try.func3, Try.ntmps3
  go_wp2_with fail
  go_quiet (fail)
  have T0 : Touch (fun _ => False) w ((w.alloc (.cells #[.int .i64 n, .int .i64 p, .int .i64 g] 22)).drewN nq) := ((Touch.refl _ _).alloc _).drewN nq
  have HT0 := hide T0
  clear T0
  generalize (w.alloc (.cells #[.int .i64 n, .int .i64 p, .int .i64 g] 22)).drewN nq = w0 at *
  go_wp2_with fail
  refine (K1.out _).mono ?_
  rintro e w' ⟨rfl, rfl⟩
  go_wp2_with fail
  refine (K2.out _).mono ?_
  rintro e w' ⟨rfl, rfl⟩
  go_wp2_with fail
  refine (K3.out _).mono ?_
  rintro e w1 ⟨rfl, t1⟩
  have HT1 := hide (HT0.out.trans t1 (fun _ _ h => h))
  clear t1 HT0
  go_wp2_with fail
  refine (K4.out _).mono ?_
  rintro e w2 ⟨rfl, k2, rfl⟩
  have HT2 := hide (HT1.out.drewN k2)
  generalize w1.drewN k2 = w2 at *
  go_wp2_with fail
  refine (K5.out _).mono ?_
  rintro e w' ⟨rfl, rfl⟩
  go_wp2_with fail
  refine (K6.out _).mono ?_
  rintro e w3 ⟨rfl, k3, rfl⟩
  have HT3 := hide (HT2.out.drewN k3)
  generalize w'.drewN k3 = w3 at *
  go_wp2_with fail
  refine (K7.out _).mono ?_
  rintro e w' ⟨rfl, rfl⟩
  go_wp2_with fail
  refine (K8.out _).mono ?_
  rintro e w4 ⟨rfl, k4, rfl⟩
  have HT4 := hide (HT3.out.drewN k4)
  generalize w'.drewN k4 = w4 at *
  go_wp2_with fail
  refine (K9.out _).mono ?_
  rintro e w' ⟨rfl, rfl⟩
  go_wp2_with fail
  refine (KA.out _).mono ?_
  rintro e w' ⟨rfl, rfl⟩
  go_wp2_with (first | (go_at_call 18; refine (num_any _ _).mono ?_; rintro e w' ⟨rfl, rfl⟩) | (go_at_call 19; refine (known_any _).mono ?_; rintro e w5 ⟨rfl, t5⟩))
  go_ret
  exact ⟨rfl, HT4.out.trans t5 (fun _ _ h => h)⟩

end Go.Proofs.Ytmhobdcnohhaaaa
