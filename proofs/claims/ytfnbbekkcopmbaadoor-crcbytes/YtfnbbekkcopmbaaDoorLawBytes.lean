/- For every sum s and every text b the Go law CrcBytes returns true and leaves all memory that was there as it was: a sum's four bytes are the document's, From reads them back, and From takes just the texts of four bytes. Condition: the package variable fourSteps starts as the program's text lays it (the card ties it). -/
import Derived.Test.YtfnbbekkcopmbaaDoorBytesW
import Derived.Test.YtfnbbekkcopmbaaDoorCame
import Derived.Test.YtfnbbekkcopmbaaDoorTie
namespace Go.Proofs.YtfnbbekkcopmbaaDoor
open Go.ChangeShapes Go.WideShapes Go.ChangeAt Go.RowKit Crcx

theorem bytes_walk (s : Nat) (hs : s < 4294967296) (b : Txt) (w : World) (ht : Tab w) (hb : b.Ok w) (hc : b.xs.length ≤ b.cap) :
    Calls Tryd.prog 3 #[.int .u32 s, b.val] w fun e w' => e = .returned (.bool true) ∧ Touch (fun _ => False) w w' := by
  by_cases h4 : b.xs.length = 4
  · obtain ⟨bo, bc, xb⟩ := b
    match xb, h4 with
    | [x0, x1, x2, x3], _ =>
      obtain ⟨B, off, rfl⟩ := hb.seg.addr (by simp)
      have a0 := hb.in8 x0 (by simp)
      have a1 := hb.in8 x1 (by simp)
      have a2 := hb.in8 x2 (by simp)
      have a3 := hb.in8 x3 (by simp)
      obtain ⟨n0, rfl⟩ := Int.eq_ofNat_of_zero_le a0.1
      obtain ⟨n1, rfl⟩ := Int.eq_ofNat_of_zero_le a1.1
      obtain ⟨n2, rfl⟩ := Int.eq_ofNat_of_zero_le a2.1
      obtain ⟨n3, rfl⟩ := Int.eq_ofNat_of_zero_le a3.1
      exact bytes_four s hs B off n0 n1 n2 n3 bc w ht (hb.seg.at 0 (by simp)) (hb.seg.at 1 (by simp)) (hb.seg.at 2 (by simp)) (hb.seg.at 3 (by simp)) (by omega) (by omega) (by omega) (by omega) (by simp at hc; omega)
  · exact bytes_not s hs b.ao b.xs.length b.cap w ht h4

set_option maxRecDepth 100000 in
theorem bytes_contract (H : Type) (enc : TypeId × Value → H) (W : World) (base : Nat) (args : Array Value) (ds gs : List (DataW H)) (before : List MemPlace)
    (hval : ∀ (j : Nat) t v, Tryd.f3.params[j]? = some t → args[j]? = some v → Value.okWide Tryd.prog W .any base t v)
    (hW : DataW.Whole enc Tryd.prog Tryd.f3.params.toList Rows.crcBytesSpec.vars false W args.toList ds gs before)
    (hsz : (DataW.weightsEach Tryd.prog (Tryd.f3.params.toList ++ (OpenSpec.ofChange Rows.crcBytesSpec).bare.plain.varTypes Tryd.prog) (ds ++ gs)).all (· ≤ reachBytes) = true) (hL : laidMetH Tryd.prog Rows.crcBytesRow.laid W) :
    Calls Tryd.prog 3 args W fun e W' => ∃ v, e = .returned v ∧ Rows.crcBytesSpec.post enc Tryd.prog Tryd.f3 false true false false W args v W' := by
  have hW' := hW
  obtain ⟨p, q, hA0, hV, rfl, hfz, hnd⟩ := hW
  have hA : DataW.TrodAll enc Tryd.prog W 0 (fun _ => true) true Tryd.f3.params.toList args.toList ds p := hA0
  rw [Tryd.params3] at hA hval hsz
  obtain ⟨v0, vs0, d0, ds0, p0, q0, hargs, rfl, rfl, h0, r0⟩ := trodAll_cons hA
  obtain ⟨v1, vs1, d1, ds1, p1, q1, rfl, rfl, rfl, h1, r1⟩ := trodAll_cons r0
  obtain ⟨rfl, rfl, rfl⟩ := trodAll_nil r1
  obtain rfl : args = #[v0, v1] := by cases args; simp_all
  obtain ⟨rfl, rfl⟩ := trodVars_none hV
  obtain ⟨a0, rfl, rfl, rfl, w0⟩ := open_int Tryd.underlying22 (hval 0 22 v0 rfl rfl) h0
  obtain ⟨b0, c0⟩ := bounds_u32 w0
  obtain ⟨x0, rfl⟩ := Int.eq_ofNat_of_zero_le b0
  have k1 := h1
  have lt1 : ∀ x ∈ p1, x.block < W.heap.size := by obtain ⟨m, hm⟩ := k1; exact DataW.trod_lt m _ _ _ hm
  obtain ⟨a1, len1, cap1, rfl⟩ := okWide_slice Tryd.underlying23 (hval 1 23 v1 rfl rfl)
  obtain ⟨t1, e1, o1, l1, c1⟩ : ∃ t : Txt, Value.slice a1 len1 cap1 = t.val ∧ t.Ok W ∧ t.xs.length ≤ 140737488351232 ∧ t.xs.length ≤ t.cap := by
    obtain ⟨fuel, hf⟩ := h1
    exact bytes_in hf (fun es sp e => by
      have e' : d1 = .slice es sp := e
      subst e'
      have := sized_slice hsz (j := 1) (t := 23) (e := 5) rfl rfl Tryd.underlying23
      rwa [bytesU8] at this)
  clear hA0
  have wk := bytes_walk x0 (by omega) t1 W (table hL) o1 c1
  rw [← e1] at wk
  refine wk.mono fun e W' ⟨he, ht⟩ => ?_
  subst he
  have bel := ht.below (fun _ _ h => h)
  exact ⟨_, rfl, _, _, _, [], _, [], hW', trodAll_mk1 (shut_bool Tryd.underlying4 _), (trodAll_cons_mk (shut_int Tryd.underlying22 w0) (trodAll_cons_mk (Below.trod laidOut (by kernel_rfl) (of_decide_eq_true (by kernel_rfl)) k1 bel lt1) trodAll_mk0)), rfl, bel.frame _, fun h => by cases h⟩


theorem bytes_met (os : Os) : laidMet Tryd.prog Rows.crcBytesRow.laid ((laidWorld os).forCall (fun _ _ => 0) ⟨#[], (#[.int .u32 0, .slice none 0 0] : Array Value), []⟩).memory :=
  laidMet_of_run' 8 (by kernel_rfl) (by kernel_rfl)
theorem bytes_reads (os : Os) {H : Type} (enc : TypeId × Value → H) : ∃ places, DataW.whole enc Tryd.prog ((laidWorld os).forCall (fun _ _ => 0) ⟨#[], (#[.int .u32 0, .slice none 0 0] : Array Value), []⟩).memory Tryd.f3.params.toList Rows.crcBytesSpec.vars false (#[.int .u32 0, .slice none 0 0] : Array Value).toList 8 = some ([.lit (.int .u32 0), .nil], [], places) :=
  ⟨[], by kernel_rfl⟩

set_option maxRecDepth 100000 in
theorem bytes_lifted (os : Os) (started : os.Started) (H : Type) (enc : TypeId × Value → H) (F : Stop.Interp) :
    ReturnsInHanded {} Tryd.checked os 3 .any ((OpenSpec.ofChange Rows.crcBytesSpec).preRow enc Tryd.prog Tryd.f3 Rows.crcBytesRow.domain false Rows.crcBytesRow.laid) (((OpenSpec.ofChange Rows.crcBytesSpec).at F).post enc Tryd.prog Tryd.f3 false true false false) := by
  obtain ⟨places, hx⟩ := bytes_reads os enc
  refine returnsInHanded_of_row (C := Tryd.checked) (s := (OpenSpec.ofChange Rows.crcBytesSpec)) own started (by kernel_rfl) Tryd.func3
    (witness_row_at (enc := enc) (C := Tryd.checked) false (laidWorld os) (#[.int .u32 0, .slice none 0 0] : Array Value) rfl (by kernel_rfl) (by kernel_rfl) (by kernel_rfl)
      (OpenSpec.preRow_of_cond 8 hx (by kernel_rfl) (fun k hk => by cases hk) (by kernel_rfl) (bytes_met os))) ?_
  intro W base args ds gs before hval hW _ _ hsz hL _ _
  exact bytes_contract H enc W base args ds gs before hval hW hsz hL

theorem bytes_said : Rows.CrcBytesSaid :=
  OpenClaim.holds_of_cond 3 Tryd.f3 rfl rfl rfl rfl rfl rfl rfl ⟨rfl, rfl, rfl, rfl, rfl⟩ rfl rfl rfl rfl rfl (by kernel_rfl) Tryd.func3 (by kernel_rfl)
    (of_decide_eq_true (by kernel_rfl)) (by unfold Func.isWrapper; first | (rw [if_pos (by decide +kernel)]; kernel_rfl) | (rw [if_neg (by decide +kernel)]; exact ⟨rfl, rfl⟩))
    (fun os started H enc _ F => by rw [OpenClaim.pre_eq_preRow]; exact bytes_lifted os started H enc F)

theorem bytes_plain (f : FuncId) (fn : Func) (hf : Tryd.pinned.checked.prog.funcNamed "keepsake/keepsakelaw02.CrcBytes" = some f) (hfn : Tryd.pinned.checked.prog.funcs[f]? = some fn) :
    false = Tryd.pinned.checked.prog.looks [] ∧ ∀ (j : Nat) t, fn.params[j]? = some t → Tryd.pinned.checked.prog.wantsStandIn t = false := by
  obtain rfl : f = 3 := Option.some.inj ((show Tryd.prog.funcNamed "keepsake/keepsakelaw02.CrcBytes" = some 3 by kernel_rfl).symm.trans hf) |>.symm
  obtain rfl : fn = Tryd.f3 := (Option.some.inj (Tryd.func3.symm.trans hfn)).symm
  refine ⟨by kernel_rfl, fun j t ht => ?_⟩
  rw [Tryd.params3] at ht
  have hm : t ∈ [22, 23] := by simpa using Array.mem_of_getElem? ht
  have hall : ([22, 23].all fun u => !Tryd.prog.wantsStandIn u) = true := by kernel_rfl
  exact (show Tryd.prog.wantsStandIn t = false by simpa using List.all_eq_true.1 hall t hm)

theorem crcBytes_holds : Rows.CrcBytesCardSaid :=
  Claim7.holds_tied_plain_at .later [] _ _ _ _ bytes_said (fun _ h => by cases h) (by kernel_rfl) (fun _ h => by cases h) crcBytes_row_tie rfl ⟨rfl, rfl⟩ (by kernel_rfl) rfl bytes_plain (by kernel_rfl)

#print axioms crcBytes_holds
end Go.Proofs.YtfnbbekkcopmbaaDoor
