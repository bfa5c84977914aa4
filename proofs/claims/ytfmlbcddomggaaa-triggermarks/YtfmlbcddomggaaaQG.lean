/- The library's stable sort: what is laid (abstractly: a record of k cells), swapRangeCmpFunc. -/
import Derived.Test.YtfmlbcddomggaaaQA
import Derived.Test.YtfmlbcddomggaaaBase
import Derived.Test.YtfmlbcddomggaaaChecked
import Derived.Shelf.SlSortCmp.KitK
import Derived.Sort.WalkB2
import Derived.Sort.WalkB12
import Derived.Deep.LoopGhost
namespace Go.Proofs.Ytfmlbcddomggaaa
open Go.Shelf Go.RowKit Go.Lib Go.Sort

/-- The bodies of the stable sort and the types that they name, in a program whose panes are of k cells. -/
structure Ls (P : Program) (k : Nat) : Prop where
  mixed : P.follows .mixedOrders = true
  fSt : P.funcs[38]? = some Try.f38
  fIn : P.funcs[42]? = some Try.f42
  fSy : P.funcs[43]? = some Try.f43
  fRo : P.funcs[44]? = some Try.f44
  fSw : P.funcs[45]? = some Try.f45
  t0 : P.underlying 0 = some (TypeDesc.tuple #[])
  a0 : ∀ w, (isAgg 0).run P w = .ok false w
  z0 : ∀ w, (Go.sizeOf 0).run P w = .ok 1 w
  v0 : ∀ w, (zeroValue 0).run P w = .ok (Value.tuple #[]) w
  t3 : P.underlying 3 = some (TypeDesc.int IntKind.i64)
  a3 : ∀ w, (isAgg 3).run P w = .ok false w
  z3 : ∀ w, (Go.sizeOf 3).run P w = .ok 1 w
  v3 : ∀ w, (zeroValue 3).run P w = .ok (Value.int IntKind.i64 0) w
  t4 : P.underlying 4 = some (TypeDesc.bool)
  a4 : ∀ w, (isAgg 4).run P w = .ok false w
  z4 : ∀ w, (Go.sizeOf 4).run P w = .ok 1 w
  v4 : ∀ w, (zeroValue 4).run P w = .ok (Value.bool false) w
  tu : P.underlying 79 = some (TypeDesc.int IntKind.u64)
  au : ∀ w, (isAgg 79).run P w = .ok false w
  zu : ∀ w, (Go.sizeOf 79).run P w = .ok 1 w
  vu : ∀ w, (zeroValue 79).run P w = .ok (Value.int IntKind.u64 0) w
  tp : P.underlying 46 = some (TypeDesc.slice 37)
  ap : ∀ w, (isAgg 46).run P w = .ok false w
  zp : ∀ w, (Go.sizeOf 46).run P w = .ok 1 w
  vp : ∀ w, (zeroValue 46).run P w = .ok (Value.slice none 0 0) w
  tf : P.underlying 69 = some (TypeDesc.func #[37, 37] #[3] false)
  af : ∀ w, (isAgg 69).run P w = .ok false w
  zf : ∀ w, (Go.sizeOf 69).run P w = .ok 1 w
  vf : ∀ w, (zeroValue 69).run P w = .ok (Value.nilFunc) w
  aE : ∀ w, (isAgg 37).run P w = .ok true w
  zE : ∀ w, (Go.sizeOf 37).run P w = .ok k w

theorem ls : Ls Try.prog 9 := by
  constructor
  all_goals first | kernel_rfl | (intro w; kernel_rfl)

namespace Sb
variable {P : Program} {k : Nat} {α : Type} [Inhabited α]

/-- Two ranges change places, one by one. -/
def swr (d : Array α) (a b : Nat) : Nat → Array α
  | 0 => d
  | n + 1 => swp (swr d a b n) (a + n) (b + n)
theorem size_swr (d : Array α) (a b : Nat) : ∀ n, (swr d a b n).size = d.size
  | 0 => rfl
  | n + 1 => by rw [swr, swp_size, size_swr d a b n]

set_option maxHeartbeats 4000000 in
set_option maxRecDepth 1000000 in
theorem swapRange_any (L : Ls P k) (enc : α → List Value) (fv : Value) (blk off cap a b n : Nat) (d0 d : Array α) (w0 w : World)
    (R : RowK enc k w0 blk off d0) (hs : d.size = d0.size) (S : SWK enc k w0 blk off d w) (hab : a + n ≤ b) (hb : b + n ≤ d.size) (hsz : d.size < 4611686018427387904) :
    Calls P 45 #[.slice (some ⟨blk, off, none⟩) d.size cap, .int .i64 a, .int .i64 b, .int .i64 n, fv] w fun e w' => e = .returned (.tuple #[]) ∧ SWK enc k w0 blk off (swr d a b n) w' := by
  have mixed := L.mixed; have t0 := L.t0; have a0 := L.a0; have z0 := L.z0; have v0 := L.v0; have t3 := L.t3; have a3 := L.a3; have z3 := L.z3; have v3 := L.v3; have t4 := L.t4; have a4 := L.a4; have z4 := L.z4; have v4 := L.v4; have tp := L.tp; have ap := L.ap; have zp := L.zp; have vp := L.vp; have tf := L.tf; have af := L.af; have zf := L.zf; have vf := L.vf; have aE := L.aE; have zE := L.zE
  have FG := L.fSw
  have S0 : Aside (SWK enc k w0 blk off d w) := S
  clear S L
  go_enter FG, Try.ntmps45
  go_wp2
  go_loopg [10] n (fun kx s10 wr => ∃ (i : Nat) (dk : Array α), s10 = .int .i64 i ∧ i ≤ n ∧ n - i ≤ kx ∧ dk.size = d.size ∧ Aside (SWK enc k w0 blk off dk wr) ∧ Hid (dk = swr d a b i))
  case atStart => exact ⟨0, d, rfl, Nat.zero_le _, by omega, rfl, S0, rfl⟩
  case round =>
    clear S0
    obtain ⟨i, dk, rfl, hi, hkx, hds, S1, HE⟩ := hrel
    by_cases hlt : i < n
    · have hltz : (i : Int) < (n : Int) := by omega
      have ra : IntKind.i64.wrap ((a : Int) + (i : Int)) = ((a + i : Nat) : Int) := by rw [IntKind.wrap_i64]; omega
      have rb : IntKind.i64.wrap ((b : Int) + (i : Int)) = ((b + i : Nat) : Int) := by rw [IntKind.wrap_i64]; omega
      go_wp2_with fail
      obtain ⟨ia, hia⟩ : ∃ ia, ia = a + i := ⟨_, rfl⟩
      obtain ⟨ib, hib⟩ : ∃ ib, ib = b + i := ⟨_, rfl⟩
      rw [← hia] at ra
      rw [← hib] at rb
      have ba : (ia : Int) < (d.size : Int) := by omega
      have bb : (ib : Int) < (d.size : Int) := by omega
      have na : ia < dk.size := by omega
      have nb : ib < dk.size := by omega
      have S2 : Aside (SWK enc k w0 blk off (swp dk ia ib) ((wr.drew.setCells blk (off + ia * k) (enc dk[ib]!)).setCells blk (off + ib * k) (enc dk[ia]!))) := S1.out.swapped R ia ib na nb
      have la := S1.out.ld1 R (by omega) P ia na
      have lb := S1.out.ld1 R (by omega) P ib nb
      have sa := S1.out.st1 R (by omega) P ia na dk[ib]!
      have sb := S1.out.st2 R (by omega) P ia ib na nb dk[ib]! dk[ia]!
      have n1 : (enc dk[ia]!).length = k := R.hk _
      have n2 : (enc dk[ib]!).length = k := R.hk _
      have HIA := hide hia
      have HIB := hide hib
      clear hia hib
      generalize enc dk[ia]! = cA at S2 la sb n1
      generalize enc dk[ib]! = cB at S2 lb sa sb n2
      clear S1
      go_big_region_o
      clear la lb sa sb
      generalize (wr.drew.setCells blk (off + ia * k) cB).setCells blk (off + ib * k) cA = w2 at S2 ⊢
      go_wp2
      go_roundg (n - (i + 1))
      case measure => omega
      case rel => exact ⟨i + 1, swp dk ia ib, by go_num, by omega, Nat.le_refl _, by rw [swp_size]; exact hds, S2, (show Hid _ from (by show _ = _; rw [swr, ← HE.out, HIA.out, HIB.out]))⟩
    · have hltz : ¬ (i : Int) < (n : Int) := by omega
      obtain rfl : i = n := by omega
      go_wp2
      go_end0
      exact ⟨rfl, by rw [← HE.out]; exact S1.out⟩

end Sb
end Go.Proofs.Ytfmlbcddomggaaa
